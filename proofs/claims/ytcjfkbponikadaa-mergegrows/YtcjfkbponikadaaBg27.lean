/-
  rokeep.MergeGrows: the walk.
-/
import Derived.Test.YtcjfkbponikadaaBg26
set_option linter.unusedVariables false
set_option linter.unusedSimpArgs false
namespace Go.Proofs.Ytcjfkbponikadaa
open Go.RowKit

/-- while things come -/
structure GrH (w : World) (g n : Nat) (A : Option Addr) (c : Nat) (xs : List Em) (k : Nat) (s : Ms) (Aw : Option Addr) (cw : Nat) (was : List Em) (wr : World) : Prop where
  ok : s.Ok wr w.heap.size
  g : s.g = g
  len : s.ct.length = n
  lim : Lim s.ct k (1 + k)
  xs : EW wr w.heap.size A c xs
  apx : Apa s A
  ew : EW wr w.heap.size Aw cw was
  apw : Apa s Aw
  weq : was.map entOf = logM s.ct
  be : Below w.heap.size w wr
section
variable {w wr w' : World} {g n c cw k nx : Nat} {A Aw : Option Addr} {xs was : List Em} {s s' : Ms} {acts : List (Nat × Option Ent)} {es : List Ent} {rows : List (List Int)}
/-- behind a call of fed -/
theorem GrH.fed (h : GrH w g n A c xs k s Aw cw was wr) (hf : FdH wr w.heap.size n 1 s es rows k (1 + k) 1 nx s' acts w') :
    s'.Ok w' w.heap.size ∧ s'.g = g ∧ s'.ct.length = n ∧ Lim s'.ct (k + 1) (1 + (k + 1)) ∧ EW w' w.heap.size A c xs ∧ Apa s' A ∧ EW w' w.heap.size Aw cw was ∧ Below w.heap.size w w' ∧
      (∃ m, logM s'.ct = was.map entOf ++ m ∧ rndM s.ct ≤ rndM s'.ct ∧ (rndM s'.ct = rndM s.ct → m = [])) := by
  obtain ⟨x1, x2⟩ := h.xs.to_ h.ok hf.to_ h.apx
  obtain ⟨y1, _⟩ := h.ew.to_ h.ok hf.to_ h.apw
  obtain ⟨m, m1, m2, m3⟩ := run_grow acts s.ct
  exact ⟨hf.to_.ok, hf.to_.g.trans h.g, hf.len, hf.lim, x1, x2, y1, hf.to_.below_ h.ok (Nat.le_refl _) h.be, m, by rw [hf.to_.ct, m1, h.weq], by rw [hf.to_.ct]; exact m2, fun e => m3 (by rw [← hf.to_.ct]; exact e)⟩
end
def GrI (w : World) (g n : Nat) (A : Option Addr) (c : Nat) (xs : List Em) (m : Nat) (v10 v11 i : Value) (wr : World) : Prop :=
  ∃ (k : Nat) (s : Ms) (Aw : Option Addr) (cw : Nat) (was : List Em), k ≤ m ∧ i = .int .i64 k ∧ v10 = .slice Aw was.length cw ∧ v11 = .int .i64 (rndM s.ct : Nat) ∧ GrH w g n A c xs k s Aw cw was wr
theorem Apa.fresh {s : Ms} {w w' : World} {B B' : Nat} {A : Option Addr} {c : Nat} {xs : List Em} (h : EW w' B' A c xs) (hs : s.Ok w B) (hB : w.heap.size ≤ B') : Apa s A := fun k hk hF => by
  have h1 := (World.ownsRow.lt h.row k (bo _ _ hk)).1
  have h2 := (hs.lo hF).2
  omega
theorem tot_new {α : Type} (n : Nat) : totM (List.replicate n [([] : List α)]) = 0 := by
  induction n with
  | zero => rfl
  | succ n ih => simp only [totM, List.replicate_succ, List.map_cons, List.sum_cons] at ih ⊢; rw [ih]; rfl
set_option maxHeartbeats 8000000 in
set_option maxRecDepth 100000 in
theorem mgrow_walk (A1 A2 : Option Addr) (c1 c2 : Nat) (cs ds : List Cl) (n0 : Int) (w : World) (h1 : LS w A1 cs) (hl1 : cs.length ≤ c1) (hc1 : c1 ≤ 9223372036854775807) (hn1 : A1 = none → c1 = 0)
    (h2 : LS w A2 ds) (hl2 : ds.length ≤ c2) (hc2 : c2 ≤ 9223372036854775807) (hn2 : A2 = none → c2 = 0) :
    Calls Try.prog 3 #[.int .i64 n0, .slice A1 cs.length c1, .slice A2 ds.length c2] w fun e w' => e = .returned (.bool true) ∧ Below w.heap.size w w' := by
  have HW := hideP (show ∀ W, Calls Try.prog 6 #[.int .i64 n0, .int .i64 4] W fun e w' => e = .returned (.int .i64 (wi n0 4)) ∧ W = w' from fun W => within_any n0 4 (by decide) (by decide) W)
  have hw4 := wi_lt n0 4 (by decide)
  generalize wi n0 4 = q at HW hw4
  have gq : IntKind.i64.wrap (1 + (q : Int)) = ((1 + q : Nat) : Int) := by simp only [IntKind.wrap_i64]; omega
  obtain ⟨n, hn⟩ : ∃ n, n = 1 + q := ⟨_, rfl⟩
  rw [← hn] at gq
  have hn1' : 1 ≤ n := by omega
  have hn4 : n ≤ 4 := by omega
  clear hn
  go_enter Try.func3, Try.ntmps3
  go_wp2_with fail
  refine (mbegun_any _).mono ?_
  rintro e w1 ⟨rfl, hb1⟩
  go_wp2_with fail
  refine (HW.out _).mono ?_
  rintro e w' ⟨rfl, rfl⟩
  go_wp2_with fail
  refine (mnew_ok n w1 hn1' hn4).mono ?_
  rintro e w2 ⟨s0, rfl, hs0, hct0, hb2⟩
  have b2 := hb1.trans (hb2.mono hb1.size)
  have h22 := h2.below b2
  have HN := hideP (entries_any A2 none c2 0 ds [] w2 h22 hl2 hc2 hn2 ⟨VS.nil, by simp⟩)
  simp only [List.length_nil] at HN
  clear HW h2 hb2 gq hw4 h22
  go_wp2_with fail
  refine HN.out.mono ?_
  clear HN
  rintro e w3 ⟨A, c, xs, rfl, hxs, hgd, hxl, hb3⟩
  have b3 := b2.trans (hb3.mono b2.size)
  have hs3 := hs0.below hb3
  have hap : Apa s0 A := Apa.fresh hxs hs0 (Nat.le_refl _)
  have hlen0 : s0.ct.length = n := by rw [hct0, List.length_replicate]
  have HL0 := hideP (mlog_any _ s0.g s0.AI s0.cI s0.ins s0.added w3 hs3.mg hs3.gm)
  go_wp2_with fail
  refine HL0.out.mono ?_
  clear HL0
  rintro e w4 ⟨Aw, cw, was, rfl, hweq, hew, hb4⟩
  have b4 := b3.trans (hb4.mono b3.size)
  have hs4 := hs3.below hb4
  have hlim0 : Lim s0.ct 0 (1 + 0) := by
    rw [hct0]
    exact ⟨by rw [tot_new]; exact Nat.le_refl _, fun b hb => by rw [(List.mem_replicate.1 hb).2]; simp⟩
  have hH : GrH w s0.g n A c xs 0 s0 Aw cw was w4 :=
    ⟨hs4.mono (by have := hb1.size; omega), rfl, hlen0, hlim0, (hxs.below hb4).mono b2.size, hap, hew.mono b3.size, Apa.fresh hew hs3 (Nat.le_refl _), hweq, b4⟩
  have HR0 := hideP (mrounds_any _ s0.g s0.AI s0.cI s0.ins s0.added w4 hs4.mg hs4.gm)
  have HGD := hideP (fun x (hx : x ∈ xs) => And.intro (hgd x hx).chk (hgd x hx).bare)
  have hcap := hxs.caps
  obtain ⟨m, hm⟩ : ∃ m, m = min cs.length 30 := ⟨_, rfl⟩
  have hsl := fun w => slice_rows A1 cs.length c1 m (min (cs.length : Int) 30) (by omega) (by omega) hn1 w
  have hml : m ≤ cs.length := by omega
  have hm30 : m ≤ 30 := by omega
  clear hs0 hs3 hs4 hxs hew hweq hlim0 hap hgd hct0 hlen0 b2 b3 b4 hb3 hb4 hb1 hm
  generalize s0.g = g at hH HR0 ⊢
  go_wp2_with fail
  refine HR0.out.mono ?_
  rintro e w' ⟨rfl, rfl⟩
  clear HR0
  go_wp2_with fail
  go_loopw [10, 11, 39] (GrI w g n A c xs m) (fun _ _ i _ => m - (intOf i).toNat)
  case atStart => exact ⟨0, s0, Aw, cw, was, Nat.zero_le _, rfl, rfl, rfl, hH⟩
  case round =>
    clear hH hsl
    obtain ⟨k, s, Aw, cw, was, hk, rfl, rfl, rfl, hH⟩ := hrel
    by_cases hlt : k < m
    · have hkc : k < cs.length := by omega
      have hL := h1.below hH.be
      obtain ⟨bb, oo, hA1, _, _⟩ := hL.vs k (clV cs[k]) (by simp [hkc])
      subst hA1
      have hLS := fun (w' : World) (hf : Fr s.F wr w') => (h1.below (hf.below (fun q hq => (hH.ok.lo hq).1) hH.be.size hH.be)).one_ hkc
      have hsR := fun W => slice_oneR bb oo m c1 k hlt (by omega) W
      have g1 : (0 : Int) ≤ (k : Int) := by omega
      have g2 : (k : Int) < (m : Int) := by omega
      have g3 : IntKind.i64.wrap ((k : Int) + 1) = (k : Int) + 1 := by simp only [IntKind.wrap_i64]; omega
      by_cases hx : k < xs.length
      · have HX := fun (w' : World) (hf : Fr s.F wr w') => show EL w' A xs from
          (show EW w' w.heap.size A c xs from ⟨hf.own hH.xs.row fun q hq => hH.apx q (ob hq), fun x hx => ⟨hf.own_ty (hH.xs.eo x hx).ops (hH.ok.off (by decide) (by decide) (by decide) (by decide)), ⟨hf.own_ty (hH.xs.eo x hx).map.cuts (hH.ok.off (by decide) (by decide) (by decide) (by decide)), hf.own_ty (hH.xs.eo x hx).map.own (hH.ok.off (by decide) (by decide) (by decide) (by decide))⟩⟩, hH.xs.bd⟩).el
        obtain ⟨bx, ox, hAx, _⟩ := (hH.xs.el).cells k _ (List.getElem?_eq_getElem hx)
        subst hAx
        have hsE := fun W => slice_oneE bx ox xs.length c k hx hcap.1 W
        have g4 : (k : Int) < (xs.length : Int) := by omega
        have HF := hideP (fed_any s w.heap.size n (some ⟨bb, oo + k, none⟩) (some ⟨bx, ox + k * 4, none⟩) (c1 - k) (c - k) 1 k (1 + k) [cs[k]] [xs[k]] wr hH.ok hn1' hn4 hH.len (by simp; omega) (by omega) (fun e => by cases e) (by simp) hLS (fun w' hf => (HX w' hf).one_ hx) (fun x hx2 => by rw [List.mem_singleton] at hx2; subst hx2; exact HGD.out _ (List.getElem_mem hx)) hH.lim (by omega) (by omega))
        rw [hH.g] at HF
        simp only [List.length_singleton] at HF
        clear HX
        clear hL hLS
        go_wp2_with fail
        refine HF.out.mono ?_
        clear HF
        rintro e w5 ⟨rfl, nx, s', acts, hF⟩
        obtain ⟨ok5, g5, len5, lim5, xs5, apx5, was5, b5, mm, m1, m2, m3⟩ := hH.fed hF
        have HLG := hideP (mlog_any _ s'.g s'.AI s'.cI s'.ins s'.added w5 ok5.mg ok5.gm)
        rw [g5] at HLG
        have HFEW := hideP (hH.ok.log_few hH.weq fun x hx _ => hH.ok.log_drop (by rw [← hH.weq]; exact List.mem_map_of_mem hx))
        have hwl : was.length ≤ 3600 := by
          have e1 := congrArg List.length hH.weq
          rw [List.length_map] at e1
          have e2 := log_len s.ct
          have e3 := hH.ok.gm.cnt
          have e4 := hH.ok.gm.most
          unfold Ms.ct at e1 e2
          omega
        have HM1 := hideP m1
        have HM3 := hideP m3
        have g11 : ¬ ((rndM s'.ct : Nat) : Int) < ((rndM s.ct : Nat) : Int) := by omega
        clear hH hF m1 m2 m3
        go_wp2_with fail
        refine HLG.out.mono ?_
        clear HLG
        rintro e w6 ⟨An, cn, now, rfl, hnow, hen, hb6⟩
        have ok6 := ok5.below hb6
        have b6 := b5.trans (hb6.mono b5.size)
        have xs6 := xs5.below hb6
        have was6 := was5.below hb6
        have apn : Apa s' An := Apa.fresh hen ok5 (Nat.le_refl _)
        have hen6 := hen.mono b5.size
        have hcn := hen.caps
        have hnl : now.map entOf = was.map entOf ++ mm := by rw [hnow, ← HM1.out]; rfl
        have hnl2 : now.length = was.length + mm.length := by have := congrArg List.length hnl; simpa using this
        have g12 : ¬ (now.length : Int) < (was.length : Int) := by omega
        have HR := hideP (fun (W : World) (h : s'.Ok W w.heap.size) => show Calls Try.prog 10 #[.pointer (some ⟨g, 0, none⟩)] W fun e w' => e = .returned (.int .i64 (rndM s'.ct : Nat)) ∧ W = w' from by
          rw [← g5]; exact mrounds_any _ s'.g s'.AI s'.cI s'.ins s'.added W h.mg h.gm)
        have hsN := fun W => slice_uptoE An now.length cn was.length (by omega) hcn.2.2.1 W
        have HEQ := hideP (eqfE_any Aw An cw cn was (now.take was.length) w6 was6.el (hen6.el.take_ _) HFEW.out (by omega))
        rw [sameL_true (show was.map entOf = (now.take was.length).map entOf by rw [List.map_take, hnl]; simp), List.length_take, Nat.min_eq_left (by omega)] at HEQ
        have HR6 := hideP (HR.out w6 ok6)
        have HNW := hideP hnow
        have dd1 : decide (((rndM s'.ct : Nat) : Int) < ((rndM s.ct : Nat) : Int)) = false := decide_eq_false (by omega)
        have dd2 : decide ((now.length : Int) < (was.length : Int)) = false := decide_eq_false (by omega)
        clear hnow hen hcn hnl was5 xs5 hb6 was6 HFEW
        have HMM := hideP hnl2
        clear hnl2
        by_cases hre : rndM s'.ct = rndM s.ct
        · have hmz := HM3.out hre
          have e6 : now.length = was.length := by rw [HMM.out, hmz]; rfl
          have d5 : (((rndM s'.ct : Nat) : Int) == ((rndM s.ct : Nat) : Int)) = true := by rw [hre]; exact beq_self_eq_true _
          have d6 : ((now.length : Int) != (was.length : Int)) = false := by rw [e6]; exact bne_self_eq_false _
          have g13 : (now.length : Int) ≤ (was.length : Int) := by omega
          clear e6 hmz hre
          go_wp2_with fail
          refine HR6.out.mono ?_
          rintro e w' ⟨rfl, rfl⟩
          clear HR6
          go_wp2_with fail
          refine HEQ.out.mono ?_
          clear HEQ
          rintro e w7 ⟨rfl, hb7⟩
          have ok7 := ok6.below hb7
          have HR7 := hideP (HR.out w7 ok7)
          have hG : GrH w g n _ c xs (k + 1) s' An cn now w7 := ⟨ok7, g5, len5, lim5, xs6.below hb7, apx5, hen6.below hb7, apn, HNW.out, b6.trans (hb7.mono b6.size)⟩
          clear ok6 b6 xs6 hen6 hb7 ok7 HR
          go_wp2_with fail
          refine HR7.out.mono ?_
          rintro e w' ⟨rfl, rfl⟩
          go_wp2_with fail
          refine HR7.out.mono ?_
          rintro e w' ⟨rfl, rfl⟩
          go_wp2_with fail
          go_roundw
          case rel => exact ⟨k + 1, s', An, cn, now, by omega, by go_num, rfl, rfl, hG⟩
          case measure => simp [intOf]; omega
        · have d5 : (((rndM s'.ct : Nat) : Int) == ((rndM s.ct : Nat) : Int)) = false := beq_eq_false_iff_ne.2 (by omega)
          clear hre
          go_wp2_with fail
          refine HR6.out.mono ?_
          rintro e w' ⟨rfl, rfl⟩
          clear HR6
          go_wp2_with fail
          refine HEQ.out.mono ?_
          clear HEQ
          rintro e w7 ⟨rfl, hb7⟩
          have ok7 := ok6.below hb7
          have HR7 := hideP (HR.out w7 ok7)
          have hG : GrH w g n _ c xs (k + 1) s' An cn now w7 := ⟨ok7, g5, len5, lim5, xs6.below hb7, apx5, hen6.below hb7, apn, HNW.out, b6.trans (hb7.mono b6.size)⟩
          clear ok6 b6 xs6 hen6 hb7 ok7 HR
          go_wp2_with fail
          refine HR7.out.mono ?_
          rintro e w' ⟨rfl, rfl⟩
          go_wp2_with fail
          refine HR7.out.mono ?_
          rintro e w' ⟨rfl, rfl⟩
          go_wp2_with fail
          go_roundw
          case rel => exact ⟨k + 1, s', An, cn, now, by omega, by go_num, rfl, rfl, hG⟩
          case measure => simp [intOf]; omega
      · have g4 : ¬ (k : Int) < (xs.length : Int) := by omega
        have HF := hideP (fed_any s w.heap.size n (some ⟨bb, oo + k, none⟩) none (c1 - k) 0 1 k (1 + k) [cs[k]] [] wr hH.ok hn1' hn4 hH.len (by simp; omega) (by omega) (fun e => by cases e) (by simp) hLS (fun w' hf => EL.nil) (by simp) hH.lim (by omega) (by omega))
        rw [hH.g] at HF
        simp only [List.length_singleton, List.length_nil] at HF
        clear hL hLS
        go_wp2_with fail
        refine HF.out.mono ?_
        clear HF
        rintro e w5 ⟨rfl, nx, s', acts, hF⟩
        obtain ⟨ok5, g5, len5, lim5, xs5, apx5, was5, b5, mm, m1, m2, m3⟩ := hH.fed hF
        have HLG := hideP (mlog_any _ s'.g s'.AI s'.cI s'.ins s'.added w5 ok5.mg ok5.gm)
        rw [g5] at HLG
        have HFEW := hideP (hH.ok.log_few hH.weq fun x hx _ => hH.ok.log_drop (by rw [← hH.weq]; exact List.mem_map_of_mem hx))
        have hwl : was.length ≤ 3600 := by
          have e1 := congrArg List.length hH.weq
          rw [List.length_map] at e1
          have e2 := log_len s.ct
          have e3 := hH.ok.gm.cnt
          have e4 := hH.ok.gm.most
          unfold Ms.ct at e1 e2
          omega
        have HM1 := hideP m1
        have HM3 := hideP m3
        have g11 : ¬ ((rndM s'.ct : Nat) : Int) < ((rndM s.ct : Nat) : Int) := by omega
        clear hH hF m1 m2 m3
        go_wp2_with fail
        refine HLG.out.mono ?_
        clear HLG
        rintro e w6 ⟨An, cn, now, rfl, hnow, hen, hb6⟩
        have ok6 := ok5.below hb6
        have b6 := b5.trans (hb6.mono b5.size)
        have xs6 := xs5.below hb6
        have was6 := was5.below hb6
        have apn : Apa s' An := Apa.fresh hen ok5 (Nat.le_refl _)
        have hen6 := hen.mono b5.size
        have hcn := hen.caps
        have hnl : now.map entOf = was.map entOf ++ mm := by rw [hnow, ← HM1.out]; rfl
        have hnl2 : now.length = was.length + mm.length := by have := congrArg List.length hnl; simpa using this
        have g12 : ¬ (now.length : Int) < (was.length : Int) := by omega
        have HR := hideP (fun (W : World) (h : s'.Ok W w.heap.size) => show Calls Try.prog 10 #[.pointer (some ⟨g, 0, none⟩)] W fun e w' => e = .returned (.int .i64 (rndM s'.ct : Nat)) ∧ W = w' from by
          rw [← g5]; exact mrounds_any _ s'.g s'.AI s'.cI s'.ins s'.added W h.mg h.gm)
        have hsN := fun W => slice_uptoE An now.length cn was.length (by omega) hcn.2.2.1 W
        have HEQ := hideP (eqfE_any Aw An cw cn was (now.take was.length) w6 was6.el (hen6.el.take_ _) HFEW.out (by omega))
        rw [sameL_true (show was.map entOf = (now.take was.length).map entOf by rw [List.map_take, hnl]; simp), List.length_take, Nat.min_eq_left (by omega)] at HEQ
        have HR6 := hideP (HR.out w6 ok6)
        have HNW := hideP hnow
        have dd1 : decide (((rndM s'.ct : Nat) : Int) < ((rndM s.ct : Nat) : Int)) = false := decide_eq_false (by omega)
        have dd2 : decide ((now.length : Int) < (was.length : Int)) = false := decide_eq_false (by omega)
        clear hnow hen hcn hnl was5 xs5 hb6 was6 HFEW
        have HMM := hideP hnl2
        clear hnl2
        by_cases hre : rndM s'.ct = rndM s.ct
        · have hmz := HM3.out hre
          have e6 : now.length = was.length := by rw [HMM.out, hmz]; rfl
          have d5 : (((rndM s'.ct : Nat) : Int) == ((rndM s.ct : Nat) : Int)) = true := by rw [hre]; exact beq_self_eq_true _
          have d6 : ((now.length : Int) != (was.length : Int)) = false := by rw [e6]; exact bne_self_eq_false _
          have g13 : (now.length : Int) ≤ (was.length : Int) := by omega
          clear e6 hmz hre
          go_wp2_with fail
          refine HR6.out.mono ?_
          rintro e w' ⟨rfl, rfl⟩
          clear HR6
          go_wp2_with fail
          refine HEQ.out.mono ?_
          clear HEQ
          rintro e w7 ⟨rfl, hb7⟩
          have ok7 := ok6.below hb7
          have HR7 := hideP (HR.out w7 ok7)
          have hG : GrH w g n _ c xs (k + 1) s' An cn now w7 := ⟨ok7, g5, len5, lim5, xs6.below hb7, apx5, hen6.below hb7, apn, HNW.out, b6.trans (hb7.mono b6.size)⟩
          clear ok6 b6 xs6 hen6 hb7 ok7 HR
          go_wp2_with fail
          refine HR7.out.mono ?_
          rintro e w' ⟨rfl, rfl⟩
          go_wp2_with fail
          refine HR7.out.mono ?_
          rintro e w' ⟨rfl, rfl⟩
          go_wp2_with fail
          go_roundw
          case rel => exact ⟨k + 1, s', An, cn, now, by omega, by go_num, rfl, rfl, hG⟩
          case measure => simp [intOf]; omega
        · have d5 : (((rndM s'.ct : Nat) : Int) == ((rndM s.ct : Nat) : Int)) = false := beq_eq_false_iff_ne.2 (by omega)
          clear hre
          go_wp2_with fail
          refine HR6.out.mono ?_
          rintro e w' ⟨rfl, rfl⟩
          clear HR6
          go_wp2_with fail
          refine HEQ.out.mono ?_
          clear HEQ
          rintro e w7 ⟨rfl, hb7⟩
          have ok7 := ok6.below hb7
          have HR7 := hideP (HR.out w7 ok7)
          have hG : GrH w g n _ c xs (k + 1) s' An cn now w7 := ⟨ok7, g5, len5, lim5, xs6.below hb7, apx5, hen6.below hb7, apn, HNW.out, b6.trans (hb7.mono b6.size)⟩
          clear ok6 b6 xs6 hen6 hb7 ok7 HR
          go_wp2_with fail
          refine HR7.out.mono ?_
          rintro e w' ⟨rfl, rfl⟩
          go_wp2_with fail
          refine HR7.out.mono ?_
          rintro e w' ⟨rfl, rfl⟩
          go_wp2_with fail
          go_roundw
          case rel => exact ⟨k + 1, s', An, cn, now, by omega, by go_num, rfl, rfl, hG⟩
          case measure => simp [intOf]; omega
    · have hb := hH.be
      clear hH
      go_wp2_with fail
      go_ret
      exact ⟨rfl, hb⟩
end Go.Proofs.Ytcjfkbponikadaa

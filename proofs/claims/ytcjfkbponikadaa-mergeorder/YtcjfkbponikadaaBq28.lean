/-
  rokeep.MergeOrder: the walk.
-/
import Derived.Test.YtcjfkbponikadaaBq27
set_option linter.unusedVariables false
set_option linter.unusedSimpArgs false
namespace Go.Proofs.Ytcjfkbponikadaa
open Go.RowKit

def OuI (w : World) (A : Option Addr) (c : Nat) (xs : List Em) (ins : List (List (List Ent))) (acts : List (Nat × Option Ent)) (cta : List (List (List Ent))) (ga gb n : Nat) (sa : Ms) (i : Value) (wr : World) : Prop :=
  ∃ (j : Nat) (sb : Ms), j ≤ n ∧ i = .int .i64 ((j : Int) - 1) ∧ OuP ins acts n j sb.ct ∧ OrH w A c xs cta ga gb sa sb wr
def InI2 (w : World) (A : Option Addr) (c : Nat) (xs : List Em) (ins : List (List (List Ent))) (acts : List (Nat × Option Ent)) (cta : List (List (List Ent))) (ga gb n : Nat) (sa : Ms) (rows : List (List Int)) (j T m : Nat) (v i : Value) (wr : World) : Prop :=
  ∃ (k nx : Nat) (p : List (Nat × Option Ent)) (sb : Ms), k ≤ m ∧ i = .int .i64 k ∧ v = .int .i64 nx ∧ OrP ins acts (xs.map entOf) rows n j T k nx p sb.ct ∧ OrH w A c xs cta ga gb sa sb wr
/-- what was made for the loops -/
structure OrT (w : World) (cs : List Cl) (A1 : Option Addr) (n m : Nat) (ins : List (List (List Ent))) (acts : List (Nat × Option Ent)) (cta : List (List (List Ent))) (xs : List Em) : Prop where
  rows : ∀ w', Below w.heap.size w w' → LS w' A1 cs
  ml : m ≤ cs.length
  m40 : m ≤ 40
  n1 : 1 ≤ n
  n4 : n ≤ 4
  insE : ins = List.replicate n [[]]
  actE : acts = (fdS n (xs.map entOf) ((cs.map (·.zs)).take m)).1
  ctE : cta = runM ins acts
  good : ∀ x ∈ xs, chkE (entOf x) = 0 ∧ dropE (entOf x) = entOf x
  xl : xs.length ≤ 12
set_option maxHeartbeats 16000000 in
set_option maxRecDepth 100000 in
theorem mord_walk (A1 A2 : Option Addr) (c1 c2 : Nat) (cs ds : List Cl) (n0 : Int) (w : World) (h1 : LS w A1 cs) (hl1 : cs.length ≤ c1) (hc1 : c1 ≤ 9223372036854775807) (hn1 : A1 = none → c1 = 0)
    (h2 : LS w A2 ds) (hl2 : ds.length ≤ c2) (hc2 : c2 ≤ 9223372036854775807) (hn2 : A2 = none → c2 = 0) :
    Calls Try.prog 4 #[.int .i64 n0, .slice A1 cs.length c1, .slice A2 ds.length c2] w fun e w' => e = .returned (.bool true) ∧ Below w.heap.size w w' := by
  have HW := hideP (show ∀ W, Calls Try.prog 6 #[.int .i64 n0, .int .i64 4] W fun e w' => e = .returned (.int .i64 (wi n0 4)) ∧ W = w' from fun W => within_any n0 4 (by decide) (by decide) W)
  have hw4 := wi_lt n0 4 (by decide)
  generalize wi n0 4 = q at HW hw4
  have gq : IntKind.i64.wrap (1 + (q : Int)) = ((1 + q : Nat) : Int) := by simp only [IntKind.wrap_i64]; omega
  obtain ⟨n, hn⟩ : ∃ n, n = 1 + q := ⟨_, rfl⟩
  rw [← hn] at gq
  have hn1' : 1 ≤ n := by omega
  have hn4 : n ≤ 4 := by omega
  clear hn
  go_enter Try.func4, Try.ntmps4
  go_wp2_with fail
  refine (mbegun_any _).mono ?_
  rintro e w1 ⟨rfl, hb1⟩
  go_wp2_with fail
  refine (HW.out _).mono ?_
  rintro e w' ⟨rfl, rfl⟩
  go_wp2_with fail
  refine (mnew_ok n w1 hn1' hn4).mono ?_
  rintro e w2 ⟨sa0, rfl, hsa0, hcta0, hb2⟩
  have b2 := hb1.trans (hb2.mono hb1.size)
  clear HW gq hw4
  go_wp2_with fail
  refine (mnew_ok n w2 hn1' hn4).mono ?_
  rintro e w3 ⟨sb0, rfl, hsb0, hctb0, hb3⟩
  have b3 := b2.trans (hb3.mono b2.size)
  have hsa3 := hsa0.below hb3
  have dj0 : ∀ q, sb0.F q → ¬ sa0.F q := fun q hq ha => by have := (hsb0.lo hq).1; have := (hsa0.lo ha).2; omega
  have HN := hideP (entries_any A2 none c2 0 ds [] w3 (h2.below b3) hl2 hc2 hn2 ⟨VS.nil, by simp⟩)
  simp only [List.length_nil] at HN
  go_wp2_with fail
  refine HN.out.mono ?_
  clear HN h2 hl2 hc2 hn2 b2 hb2 hb3
  rintro e w4 ⟨A, c, xs, rfl, hxs, hgd, hxl, hb4⟩
  have b4 := b3.trans (hb4.mono b3.size)
  have hsa4 := hsa3.below hb4
  have hsb4 := hsb0.below hb4
  have apa : Apa sa0 A := apa_new hxs hsa3 (Nat.le_refl _)
  have apb : Apa sb0 A := apa_new hxs hsb0 (Nat.le_refl _)
  have hlena : sa0.ct.length = n := by rw [hcta0, List.length_replicate]
  have hlim0 : Lim sa0.ct 0 1 := by
    rw [hcta0]
    exact ⟨by rw [tot_none]; exact Nat.le_refl _, fun b hb => by rw [(List.mem_replicate.1 hb).2]; simp⟩
  have HGD := hideP (fun x (hx : x ∈ xs) => And.intro (hgd x hx).chk (hgd x hx).bare)
  have hb1s := hb1.size
  obtain ⟨m, hm⟩ : ∃ m, m = min cs.length 40 := ⟨_, rfl⟩
  have hsa5 : sa0.Ok w4 w.heap.size := hsa4.mono hb1s
  have HF := hideP (fed_any sa0 w.heap.size n A1 A c1 c m 0 1 cs xs w4 hsa5 hn1' hn4 hlena hl1 hc1 hn1 hm (fun w' hf => h1.below (hf.below (fun q hq => (hsa5.lo hq).1) b4.size b4))
    (fun w' hf => (show EW w' w3.heap.size A c xs from ⟨hf.own hxs.row fun q hq => apa q (ob hq), fun x hx => ⟨hf.own_ty (hxs.eo x hx).ops (hsa4.off (by decide) (by decide) (by decide) (by decide)), ⟨hf.own_ty (hxs.eo x hx).map.cuts (hsa4.off (by decide) (by decide) (by decide) (by decide)), hf.own_ty (hxs.eo x hx).map.own (hsa4.off (by decide) (by decide) (by decide) (by decide))⟩⟩, hxs.bd⟩).el)
    HGD.out hlim0 (by omega) (by omega))
  have HLS := hideP (fun (w' : World) (hb : Below w.heap.size w w') => h1.below hb)
  have hsl := fun w => slice_rows A1 cs.length c1 m (min (cs.length : Int) 40) (by omega) (by omega) hn1 w
  have hml : m ≤ cs.length := by omega
  have hm40 : m ≤ 40 := by omega
  clear h1 hgd hn1 hm
  go_wp2_with fail
  refine HF.out.mono ?_
  clear HF
  rintro e w5 ⟨rfl, nx0, sa, acts0, hF⟩
  have hxs5 := (hxs.to_ hsa5 hF.to_ apa).1
  have b5 : Below w.heap.size w w5 := hF.to_.below_ hsa5 (Nat.le_refl _) b4
  have hsb5 : sb0.Ok w5 w.heap.size := (hsb4.fr hF.to_.fr dj0 (hsa4.off (by decide) (by decide) (by decide) (by decide)) (hsa4.off (by decide) (by decide) (by decide) (by decide)) (hsa4.off (by decide) (by decide) (by decide) (by decide))).mono (by have := hb1s; have := hsb0.mg.low; have := b3.size; have := hsa0.size; omega)
  have hH0 : OrH w A c xs (runM sa0.ct acts0) sa0.g sb0.g sa sb0 w5 :=
    ⟨hF.to_.ok, hF.to_.g, hF.to_.ct, hsb5, rfl, fun q hq ha => (hF.to_.F q ha).elim (fun e => dj0 q hq e) fun e => by have := (hsb4.lo hq).2; omega, hxs5.mono b3.size, apb, b5⟩
  have hT : OrT w cs A1 n m (List.replicate n [[]]) acts0 (runM sa0.ct acts0) xs :=
    ⟨HLS.out, hml, hm40, hn1', hn4, rfl, by rw [hF.st], by rw [hcta0], HGD.out, by omega⟩
  have hO0 : OuP (List.replicate n [[]]) acts0 n n sb0.ct := by rw [hctb0]; exact OuP.start (by simp) hn1' (tot_none n)
  generalize hct : runM sa0.ct acts0 = cta at hH0 hT
  generalize hins : List.replicate n [([] : List Ent)] = ins at hT hO0
  generalize sa0.g = ga at hH0 ⊢
  generalize sb0.g = gb at hH0 ⊢
  have gn : IntKind.i64.wrap ((n : Int) - 1) = (n : Int) - 1 := by simp only [IntKind.wrap_i64]; omega
  have HT := hideP hT
  have hcap := hxs.caps
  clear hct hins hF hxs5 b5 hsb5 hxs hsa4 hsb4 apa apb hlena hlim0 HGD HLS dj0 hsa3 hsa0 hsb0 hcta0 hctb0 b3 b4 hb1 hb4 hb1s hsa5 hxl hT hml hm40 hl1
  go_wp2_with fail
  go_loopw [12] (OuI w A c xs ins acts0 cta ga gb n sa) (fun i _ => (intOf i + 1).toNat)
  case atStart => exact ⟨n, sb0, Nat.le_refl _, rfl, hO0, hH0⟩
  case round =>
    clear hO0 hH0
    obtain ⟨j, sb, hjn, rfl, hO, hH⟩ := hrel
    rcases Nat.eq_zero_or_pos j with rfl | hj
    · obtain ⟨hO1, _⟩ := hO
      rw [if_pos rfl] at hO1
      have hbc : sb.ct = cta := by rw [hO1, HT.out.ctE]
      have hac := hH.act
      have hba := hH.a
      have hbb := hH.b
      have hbe := hH.be
      have hne := hba.ne_
      rw [hac] at hne
      have hlen41 : ∀ b ∈ cta, b.length ≤ 41 := fun b hb => by
        rw [HT.out.ctE] at hb
        have h1 := run_bs acts0 ins 1 (by rw [HT.out.insE]; intro b hb; rw [(List.mem_replicate.1 hb).2]; simp) b hb
        have h2 := fdS_len n (xs.map entOf) ((cs.map (·.zs)).take m)
        rw [← HT.out.actE, List.length_take] at h2
        have := HT.out.m40
        omega
      have hfewa := fun (ys : List Em) (h : ys.map entOf = logM cta) => hba.log_few (xs := ys) (by rw [hac]; exact h) fun x hx _ => hba.log_drop (by rw [hac, ← h]; exact List.mem_map_of_mem hx)
      have HRa := hideP (fun (W : World) (h : sa.Ok W w.heap.size) => show Calls Try.prog 10 #[.pointer (some ⟨ga, 0, none⟩)] W fun e w' => e = .returned (.int .i64 (rndM cta : Nat)) ∧ W = w' from by
        rw [← hH.ag, ← hac]; exact mrounds_any _ sa.g sa.AI sa.cI sa.ins sa.added W h.mg h.gm)
      have HRb := hideP (fun (W : World) (h : sb.Ok W w.heap.size) => show Calls Try.prog 10 #[.pointer (some ⟨gb, 0, none⟩)] W fun e w' => e = .returned (.int .i64 (rndM cta : Nat)) ∧ W = w' from by
        rw [← hH.bg, ← hbc]; exact mrounds_any _ sb.g sb.AI sb.cI sb.ins sb.added W h.mg h.gm)
      have HLa := hideP (fun (W : World) (h : sa.Ok W w.heap.size) => show Calls Try.prog 9 #[.pointer (some ⟨ga, 0, none⟩)] W (RetLm W (logM cta)) from by
        rw [← hH.ag, ← hac]; exact mlog_any _ sa.g sa.AI sa.cI sa.ins sa.added W h.mg h.gm)
      have HLb := hideP (fun (W : World) (h : sb.Ok W w.heap.size) => show Calls Try.prog 9 #[.pointer (some ⟨gb, 0, none⟩)] W (RetLm W (logM cta)) from by
        rw [← hH.bg, ← hbc]; exact mlog_any _ sb.g sb.AI sb.cI sb.ins sb.added W h.mg h.gm)
      have HWa := hideP (fun (W : World) (h : sa.Ok W w.heap.size) => show Calls Try.prog 17 #[.pointer (some ⟨ga, 0, none⟩)] W (RetWt W (waitM cta)) from by
        rw [← hH.ag, ← hac]; exact mwaits_any _ sa.g sa.AI sa.cI sa.ins sa.added W h.mg h.gm)
      have HWb := hideP (fun (W : World) (h : sb.Ok W w.heap.size) => show Calls Try.prog 17 #[.pointer (some ⟨gb, 0, none⟩)] W (RetWt W (waitM cta)) from by
        rw [← hH.bg, ← hbc]; exact mwaits_any _ sb.g sb.AI sb.cI sb.ins sb.added W h.mg h.gm)
      have hag := hH.ag
      have hwne : waitM cta ≠ [] := wait_ne hne.1 fun b hb => by have := hlen41 b hb; omega
      have hwl : (waitM cta).length ≤ 4 := by
        have h1 : (waitM cta).length ≤ cta.length := by
          have := List.length_filter_le (fun i => decide ((cloL cta)[i]? = some (rndM cta))) (List.range cta.length)
          rw [List.length_range] at this
          exact this
        have h2 := hba.gm.few
        have h4 : cta.length = sa.ct.length := by rw [hac]
        have h3 : sa.ct.length = sa.ins.length := by simp [Ms.ct, ctM]
        omega
      have hlgl : (logM cta).length ≤ 3600 := by
        have e2 := log_len sa.ct
        have e3 := hba.gm.cnt
        have e4 := hba.gm.most
        unfold Ms.ct at e2
        rw [← hac]
        unfold Ms.ct
        omega
      have HNE := hideP (And.intro hne hlen41)
      have HWN := hideP hwne
      have d1 : (((rndM cta : Nat) : Int) != ((rndM cta : Nat) : Int)) = false := bne_self_eq_false _
      have e0 : ((0 : Nat) : Int) - 1 = -1 := by decide
      rw [e0]
      clear e0 hO1 hH hbc hne hlen41 hsl hwne
      go_wp2_with fail
      refine (HRa.out _ hba).mono ?_
      rintro e w' ⟨rfl, rfl⟩
      go_wp2_with fail
      refine (HRb.out _ hbb).mono ?_
      rintro e w' ⟨rfl, rfl⟩
      clear HRb
      go_wp2_with fail
      refine (HLa.out _ hba).mono ?_
      clear HLa
      rintro e w6 ⟨L1, k1, ya, rfl, hya, hea, hb6⟩
      have b6 := hbe.trans (hb6.mono hbe.size)
      replace hba := hba.below hb6
      replace hbb := hbb.below hb6
      clear hb6 hbe
      go_wp2_with fail
      refine (HLb.out _ hbb).mono ?_
      clear HLb
      rintro e w7 ⟨L2, k2, yb, rfl, hyb, heb, hb7⟩
      have b7 := b6.trans (hb7.mono b6.size)
      replace hba := hba.below hb7
      replace hbb := hbb.below hb7
      replace hea := hea.below hb7
      have hyl : ya.length ≤ 3600 := by have := congrArg List.length hya; rw [List.length_map] at this; omega
      have HEQ := hideP (eqfE_any L1 L2 k1 k2 ya yb w7 hea.el heb.el (hfewa ya hya) (by omega))
      rw [sameL_true (hya.trans hyb.symm)] at HEQ
      clear hb7 b6 hea heb hya hyb hfewa hyl
      go_wp2_with fail
      refine HEQ.out.mono ?_
      clear HEQ
      rintro e w8 ⟨rfl, hb8⟩
      have b8 := b7.trans (hb8.mono b7.size)
      replace hba := hba.below hb8
      replace hbb := hbb.below hb8
      clear hb8 b7
      go_wp2_with fail
      refine (HWa.out _ hba).mono ?_
      rintro e w9 ⟨V1, m1, rfl, ho1, hb9⟩
      have b9 := b8.trans (hb9.mono b8.size)
      replace hba := hba.below hb9
      replace hbb := hbb.below hb9
      clear hb9 b8
      go_wp2_with fail
      refine (HWb.out _ hbb).mono ?_
      clear HWb
      rintro e w10 ⟨V2, m2, rfl, ho2, hb10⟩
      have b10 := b9.trans (hb10.mono b9.size)
      replace hba := hba.below hb10
      have HIE := hideP (iequal_same V1 V2 m1 m2 (waitM cta) w10 (ho1.below hb10).vs ho2.vs (by omega))
      clear hbb hb10 b9 ho1 ho2
      go_wp2_with fail
      refine HIE.out.mono ?_
      clear HIE
      rintro e w11 ⟨rfl, hb11⟩
      have b11 := b10.trans (hb11.mono b10.size)
      replace hba := hba.below hb11
      clear hb11 b10
      go_wp2_with fail
      refine (HRa.out _ hba).mono ?_
      clear HRa
      rintro e w' ⟨rfl, rfl⟩
      go_wp2_with fail
      refine (HWa.out _ hba).mono ?_
      clear HWa
      rintro e w12 ⟨Aw, cw, rfl, how, hb12⟩
      have b12 := b11.trans (hb12.mono b11.size)
      have hC : ClH w ga cta Aw cw 0 sa w12 := ⟨hba.below hb12, hag, hac, how.mono b11.size, b12⟩
      have d3 : (((waitM cta).length : Int) == 0) = false := beq_eq_false_iff_ne.2 (by have := List.length_pos_iff.2 HWN.out; omega)
      clear hba hb12 b11 how b12 hag hac
      go_wp2_with fail
      go_loopw [144] (fun i wr => ∃ (k : Nat) (sa : Ms), k ≤ (waitM cta).length ∧ i = .int .i64 k ∧ ClH w ga cta Aw cw k sa wr) (fun i _ => (waitM cta).length - (intOf i).toNat)
      case atStart => exact ⟨0, sa, Nat.zero_le _, rfl, hC⟩
      case round =>
        clear hC
        obtain ⟨k, sa, hk, rfl, hC⟩ := hrel
        by_cases hlt : k < (waitM cta).length
        · obtain ⟨i, hi⟩ : ∃ i, (waitM cta)[k]? = some i := ⟨_, List.getElem?_eq_getElem hlt⟩
          obtain ⟨bv, ov, hAw, hbv, hcell⟩ := hC.ws.vs k (.int .i64 (i : Int)) (by simp [nV, hi])
          have hnd := wait_nodup cta
          have hnt := not_take hnd hi
          have him : i ∈ waitM cta := List.mem_of_getElem? hi
          have hndk : ((waitM cta).take k).Nodup := hnd.sublist (List.take_sublist _ _)
          have hr1 : rndM sa.ct = rndM cta := by rw [hC.act]; exact closeAll_rnd hndk hnt him
          obtain ⟨bi, hbi0, hbr⟩ := wait_mem.1 him
          have hbi : sa.ct[i]? = some bi := by rw [hC.act, closeAll_at _ _ hndk, if_neg hnt]; exact hbi0
          have hb41 := HNE.out.2 bi (List.mem_of_getElem? hbi0)
          obtain ⟨q1, q2, q3⟩ := closeQ_ok hbi (by omega)
          have HCL := hideP (mclose_any sa w.heap.size (i : Int) wr hC.a)
          rw [q1, q2, q3, hC.ag] at HCL
          have HR := hideP (show Calls Try.prog 10 #[.pointer (some ⟨ga, 0, none⟩)] wr fun e w' => e = .returned (.int .i64 (rndM cta : Nat)) ∧ wr = w' from by
            rw [← hC.ag, ← hr1]; exact mrounds_any _ sa.g sa.AI sa.cI sa.ins sa.added wr hC.a.mg hC.a.gm)
          have HST := hideP (fun (s2 : Ms) (w2 : World) (hT : sa.To wr w.heap.size s2 w2 (closeM sa.ct i)) => hC.step hi hT)
          have HR2 := hideP (fun (s2 : Ms) (w2 : World) (h2 : ClH w ga cta Aw cw (k + 1) s2 w2) => show Calls Try.prog 10 #[.pointer (some ⟨ga, 0, none⟩)] w2 fun e w' => e = .returned (.int .i64 (rndM s2.ct : Nat)) ∧ w2 = w' from by
            rw [← h2.ag]; exact mrounds_any _ s2.g s2.AI s2.cI s2.ins s2.added w2 h2.a.mg h2.a.gm)
          have hr60 := rnd_60 cta
          have HEN := hideP (fun (hlast : k + 1 = (waitM cta).length) (s2 : Ms) (w2 : World) (h2 : ClH w ga cta Aw cw (k + 1) s2 w2) => show rndM s2.ct = rndM cta + 1 from by
            rw [h2.act, hlast, List.take_length]
            exact closeAll_end HNE.out.1.1 HNE.out.1.2 fun b hb => by have := HNE.out.2 b hb; omega)
          subst hAw
          have g1 : (0 : Int) ≤ (k : Int) := by omega
          have g2 : (k : Int) < ((waitM cta).length : Int) := by omega
          have g3 : IntKind.i64.wrap (((waitM cta).length : Int) - 1) = ((waitM cta).length : Int) - 1 := by simp only [IntKind.wrap_i64]; omega
          have g4 : IntKind.i64.wrap (((rndM cta : Nat) : Int) + 1) = ((rndM cta + 1 : Nat) : Int) := by simp only [IntKind.wrap_i64]; omega
          have hlen := hideP (show (waitM cta).length = (waitM cta).length from rfl)
          by_cases hlast : k + 1 = (waitM cta).length
          · have d4 : ((k : Int) == ((waitM cta).length : Int) - 1) = true := beq_iff_eq.2 (by omega)
            have d5 : (((rndM cta + 1 : Nat) : Int) != ((rndM cta + 1 : Nat) : Int)) = false := bne_self_eq_false _
            have HLA := hideP hlast
            clear hC hnd hnt him hndk hr1 hbi0 hbr hbi hb41 q1 q2 q3 hi hlast
            go_wp2_with fail
            refine HR.out.mono ?_
            rintro e w' ⟨rfl, rfl⟩
            go_wp2_with fail
            refine HCL.out.mono ?_
            rintro e w2 ⟨s2, rfl, hT⟩
            have hC2 := HST.out s2 w2 hT
            have HR3 := hideP (HR2.out s2 w2 hC2)
            rw [HEN.out HLA.out s2 w2 hC2] at HR3
            clear HST HCL HR HR2 hT HEN
            go_wp2_with fail
            refine HR3.out.mono ?_
            rintro e w' ⟨rfl, rfl⟩
            go_wp2_with fail
            go_roundw
            case rel => exact ⟨k + 1, s2, by omega, by go_num, hC2⟩
            case measure => simp [intOf]; omega
          · have d4 : ((k : Int) == ((waitM cta).length : Int) - 1) = false := beq_eq_false_iff_ne.2 (by omega)
            clear hC hnd hnt him hndk hr1 hbi0 hbr hbi hb41 q1 q2 q3 hi
            go_wp2_with fail
            refine HR.out.mono ?_
            rintro e w' ⟨rfl, rfl⟩
            go_wp2_with fail
            refine HCL.out.mono ?_
            rintro e w2 ⟨s2, rfl, hT⟩
            have hC2 := HST.out s2 w2 hT
            clear HST HCL HR HR2 hT HEN
            go_wp2_with fail
            go_roundw
            case rel => exact ⟨k + 1, s2, by omega, by go_num, hC2⟩
            case measure => simp [intOf]; omega
        · obtain rfl : k = (waitM cta).length := by omega
          have hbe := hC.be
          clear hC
          go_wp2_with fail
          go_ret
          exact ⟨rfl, hbe⟩
    · obtain ⟨j', rfl⟩ : ∃ j', j = j' + 1 := ⟨j - 1, by omega⟩
      have hO' := hO.go (es := xs.map entOf) (rows := cs.map (·.zs))
      have e1 : ((j' + 1 : Nat) : Int) - 1 = (j' : Int) := by omega
      rw [e1]
      have g0 : (0 : Int) ≤ (j' : Int) := by omega
      clear e1 hO
      go_wp2_with fail
      go_loopw [13, 66] (InI2 w A c xs ins acts0 cta ga gb n sa (cs.map (·.zs)) j' ((n - (j' + 1)) * 12) m) (fun _ i _ => m - (intOf i).toNat)
      case atStart => exact ⟨0, 0, [], sb, Nat.zero_le _, rfl, rfl, hO', hH⟩
      case round =>
        clear hO' hH
        obtain ⟨k, nx, p, sb, hk, rfl, rfl, hP, hH⟩ := hrel
        by_cases hlt : k < m
        · have hkc : k < cs.length := by have := HT.out.ml; omega
          have hrow : (cs.map (·.zs))[k]? = some cs[k].zs := by rw [List.getElem?_map, List.getElem?_eq_getElem hkc]; rfl
          have hL := HT.out.rows wr hH.be
          obtain ⟨b, o, hA, hbl, q1⟩ := hL.vs k (clV cs[k]) (by simp [hkc])
          obtain ⟨hI, hzc, hcc⟩ := hL.is_ _ (List.getElem_mem hkc)
          subst hA
          generalize cs[k] = x at hrow q1 hI hzc hcc
          obtain ⟨Ac, cc, zs⟩ := x
          simp only [clV] at q1
          simp only at hrow hI hzc hcc
          have g1 : (0 : Int) ≤ (k : Int) := by omega
          have g2 : (k : Int) < (m : Int) := by omega
          have hnx := hP.nxl
          have hn4 := HT.out.n4
          have hxl := HT.out.xl
          have hm40 := HT.out.m40
          rw [List.length_map] at hnx
          by_cases h2 : zs.length < 2
          · have g3 : (zs.length : Int) < 2 := by omega
            have hP2 := hP.skip hrow (by unfold fdStep; rw [if_pos h2])
            clear hL hI hP
            go_wp2_with fail
            go_roundw
            case rel => exact ⟨k + 1, nx, p, sb, by omega, by go_num, rfl, hP2, hH⟩
            case measure => simp [intOf]; omega
          · have g3 : ¬ (zs.length : Int) < 2 := by omega
            obtain ⟨bz, oz, hz, hblz, z1⟩ := hI 1 (zs.getD 1 0) (by simp [show 1 < zs.length by omega])
            obtain ⟨_, _, e, _, z0⟩ := hI 0 (zs.getD 0 0) (by simp [show 0 < zs.length by omega])
            rw [hz] at e
            injection e with e
            injection e with e1 e2 _
            subst e1; subst e2
            subst hz
            rw [Nat.add_zero] at z0
            have HCS := hideP (fdStep_cases n (xs.map entOf) p nx zs)
            generalize zs.getD 1 0 = y1 at z1 HCS
            generalize zs.getD 0 0 = y0 at z0 HCS
            have HW1 := hideP (within_any y1 n HT.out.n1 (by omega) wr)
            have HW0 := hideP (show Calls Try.prog 6 #[.int .i64 y0, .int .i64 3] wr fun e w' => e = .returned (.int .i64 (wi y0 3)) ∧ wr = w' from within_any y0 3 (by decide) (by decide) wr)
            have hwi := wi_lt y1 n HT.out.n1
            have g4 : (1 : Int) < (zs.length : Int) := by omega
            have g5 : (0 : Int) < (zs.length : Int) := by omega
            generalize wi y1 n = ix at HW1 HCS hwi
            have hctl : sb.ct.length = n := by rw [hP.mix.len, HT.out.insE, List.length_replicate]
            obtain ⟨bi, hbi⟩ : ∃ bi, sb.ct[j']? = some bi := ⟨_, List.getElem?_eq_getElem (by omega)⟩
            have hbne : bi ≠ [] := by
              obtain ⟨xi, hxi, rfl⟩ := List.mem_map.1 (show bi ∈ sb.ins.map ctI from List.mem_of_getElem? hbi)
              obtain ⟨q, hq⟩ := List.mem_iff_getElem?.1 hxi
              intro e
              have := congrArg List.length e
              simp [ctI] at this
              exact hH.b.mg.ne q xi hq this
            have htot := hP.tot
            have hfew := hP.few (by rw [HT.out.insE]; intro b hb; rw [(List.mem_replicate.1 hb).2]; simp) hbi
            have hT36 : (n - (j' + 1)) * 12 ≤ 36 := by omega
            rcases HCS.out with ⟨hc, _⟩ | ⟨_, hw2, hnl, hs⟩ | ⟨_, hw2, x, hx, hs⟩ | ⟨_, hw2, hs⟩
            · exact absurd hc h2
            · have d1 : ((wi y0 3 : Nat) : Int) < 2 := by omega
              have g6 : ¬ (nx : Int) < (xs.length : Int) := by rw [List.length_map] at hnl; omega
              have hP2 := hP.skip hrow hs
              generalize wi y0 3 = y at HW0 d1
              clear hL hI hP hbi hs hw2 HCS hrow hbne hfew
              go_wp2_with fail
              refine HW1.out.mono ?_
              rintro e w' ⟨rfl, rfl⟩
              go_wp2_with fail
              refine HW0.out.mono ?_
              rintro e w' ⟨rfl, rfl⟩
              go_wp2_with fail

              go_roundw
              case rel => exact ⟨k + 1, nx, p, sb, by omega, by go_num, rfl, hP2, hH⟩
              case measure => simp [intOf]; omega
            · have d1 : ((wi y0 3 : Nat) : Int) < 2 := by omega
              have hnl : nx < xs.length := by have := (List.getElem?_eq_some_iff.1 hx).1; rwa [List.length_map] at this
              have g6 : (nx : Int) < (xs.length : Int) := by omega
              have g7 : (0 : Int) ≤ (nx : Int) := by omega
              have g8 : IntKind.i64.wrap ((nx : Int) + 1) = ((nx + 1 : Nat) : Int) := by simp only [IntKind.wrap_i64]; omega
              by_cases hix : ix = j'
              · subst hix
                have hE := hH.xs.el
                obtain ⟨bb, oo, hA2, hbl2, p0, p1, p2, p3⟩ := hE.cells nx xs[nx] (List.getElem?_eq_getElem hnl)
                have hes := hE.es _ (List.getElem_mem hnl)
                have hg := HT.out.good _ (List.getElem_mem hnl)
                have hxe : entOf xs[nx] = x := by rw [List.getElem?_map, List.getElem?_eq_getElem hnl] at hx; injection hx
                have HAD := hideP (madd_any sb w.heap.size (ix : Int) xs[nx] wr hH.b hes)
                obtain ⟨q1', q2⟩ := addQ_ok (ct := sb.ct) (i := ix) (x := entOf xs[nx]) (by omega) hg.1 (by omega)
                rw [q1', q2, hg.2, hxe, hH.bg] at HAD
                have HN := hideP (fun (w' : World) (s2 : Ms) (hT : sb.To wr w.heap.size s2 w' (addM sb.ct ix x)) => And.intro (show OrP ins acts0 (xs.map entOf) (cs.map (·.zs)) n ix ((n - (ix + 1)) * 12) (k + 1) (nx + 1) (p ++ [(ix, some x)]) s2.ct from by
                  rw [hT.ct]
                  exact hP.own hrow hs (by rw [List.length_map]; omega) (by rw [stM_add, tot_add x hbi hbne]; omega)) (hH.step hT))
                generalize xs[nx] = y at p0 p1 p2 p3 HAD
                subst hA2
                generalize wi y0 3 = y' at HW0 d1
                have d2 : ((ix : Int) == (ix : Int)) = true := beq_self_eq_true _
                clear hL hI hP hbi hs hw2 HCS hrow hbne hfew hE hes hg hxe hx q1' q2 hH
                unfold emV emC at HAD
                go_wp2_with fail
                refine HW1.out.mono ?_
                rintro e w' ⟨rfl, rfl⟩
                go_wp2_with fail
                refine HW0.out.mono ?_
                rintro e w' ⟨rfl, rfl⟩
                go_wp2_with fail

                refine HAD.out.mono ?_
                rintro e w2 ⟨s2, rfl, hT⟩
                obtain ⟨hP2, hH2⟩ := HN.out w2 s2 hT
                clear HN HAD hT
                go_wp2_with fail
                go_roundw
                case rel => exact ⟨k + 1, nx + 1, _, s2, by omega, by go_num, by go_num, hP2, hH2⟩
                case measure => simp [intOf]; omega
              · have d2 : ((ix : Int) == (j' : Int)) = false := beq_eq_false_iff_ne.2 (by omega)
                have hP2 := hP.other hrow hs (by omega) (by rw [List.length_map]; omega) hix
                generalize wi y0 3 = y at HW0 d1
                clear hL hI hP hbi hs hw2 HCS hrow hbne hfew hx hix
                go_wp2_with fail
                refine HW1.out.mono ?_
                rintro e w' ⟨rfl, rfl⟩
                go_wp2_with fail
                refine HW0.out.mono ?_
                rintro e w' ⟨rfl, rfl⟩
                go_wp2_with fail

                go_roundw
                case rel => exact ⟨k + 1, nx + 1, _, sb, by omega, by go_num, by go_num, hP2, hH⟩
                case measure => simp [intOf]; omega
            · have d1 : ¬ ((wi y0 3 : Nat) : Int) < 2 := by omega
              by_cases hix : ix = j'
              · subst hix
                obtain ⟨q1', q2, q3⟩ := closeQ_ok hbi (by omega)
                have HCL := hideP (mclose_any sb w.heap.size (ix : Int) wr hH.b)
                rw [q1', q2, q3, hH.bg] at HCL
                have HN := hideP (fun (w' : World) (s2 : Ms) (hT : sb.To wr w.heap.size s2 w' (closeM sb.ct ix)) => And.intro (show OrP ins acts0 (xs.map entOf) (cs.map (·.zs)) n ix ((n - (ix + 1)) * 12) (k + 1) nx (p ++ [(ix, none)]) s2.ct from by
                  rw [hT.ct]
                  exact hP.own hrow hs (by rw [List.length_map]; omega) (by rw [stM_close, tot_close hbi]; omega)) (hH.step hT))
                generalize wi y0 3 = y' at HW0 d1
                have d2 : ((ix : Int) == (ix : Int)) = true := beq_self_eq_true _
                clear hL hI hP hbi hs hw2 HCS hrow hbne hfew q1' q2 q3 hH
                go_wp2_with fail
                refine HW1.out.mono ?_
                rintro e w' ⟨rfl, rfl⟩
                go_wp2_with fail
                refine HW0.out.mono ?_
                rintro e w' ⟨rfl, rfl⟩
                go_wp2_with fail

                refine HCL.out.mono ?_
                rintro e w2 ⟨s2, rfl, hT⟩
                obtain ⟨hP2, hH2⟩ := HN.out w2 s2 hT
                clear HN HCL hT
                go_wp2_with fail
                go_roundw
                case rel => exact ⟨k + 1, nx, _, s2, by omega, by go_num, rfl, hP2, hH2⟩
                case measure => simp [intOf]; omega
              · have d2 : ((ix : Int) == (j' : Int)) = false := beq_eq_false_iff_ne.2 (by omega)
                have hP2 := hP.other hrow hs (Nat.le_refl _) (by rw [List.length_map]; omega) hix
                generalize wi y0 3 = y at HW0 d1
                clear hL hI hP hbi hs hw2 HCS hrow hbne hfew hix
                go_wp2_with fail
                refine HW1.out.mono ?_
                rintro e w' ⟨rfl, rfl⟩
                go_wp2_with fail
                refine HW0.out.mono ?_
                rintro e w' ⟨rfl, rfl⟩
                go_wp2_with fail

                go_roundw
                case rel => exact ⟨k + 1, nx, _, sb, by omega, by go_num, rfl, hP2, hH⟩
                case measure => simp [intOf]; omega
        · obtain rfl : k = m := by omega
          have hB := hP.back HT.out.actE (by rw [List.length_map]; exact HT.out.xl) (by omega)
          have g5 : IntKind.i64.wrap ((j' : Int) - 1) = (j' : Int) - 1 := by simp only [IntKind.wrap_i64]; have := HT.out.n4; omega
          clear hP
          go_wp2_with fail
          go_roundw
          case rel => exact ⟨j', sb, by omega, by first | rfl | go_num, hB, hH⟩
          case measure => first | (simp [intOf]; done) | (simp [intOf]; omega)
end Go.Proofs.Ytcjfkbponikadaa

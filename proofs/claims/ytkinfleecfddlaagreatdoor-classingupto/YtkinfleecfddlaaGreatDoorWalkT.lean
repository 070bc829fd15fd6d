/- Walks: the program's readLines. -/
import Derived.Test.YtkinfleecfddlaaGreatDoorWalkS
import Derived.Test.YtkinfleecfddlaaGreatDoorLines
namespace Go.Proofs.YtkinfleecfddlaaGreatDoor
open Go.RowKit

/-- A line of the program's: the line, and where its slice lies. -/
abbrev PLn := Cu.Ln × Option Addr × Nat
def plv (x : PLn) : Value := plineV x.1 x.2.1 x.2.2
def PLinesOwn (w : World) (base : Nat) (l : List PLn) : Prop := ∀ x ∈ l, PLnOwn w base x.1 x.2.1 x.2.2
/-- Is a line not empty? -/
def isLn (x : Cu.Ln) : Bool := !(x.name == 0 && x.op == 0)

theorem plineV_iface (x : Cu.Ln) (a : Option Addr) (c : Nat) : ∃ t v, plineV x a c = .iface t v := by
  unfold plineV; split <;> exact ⟨_, _, rfl⟩
theorem Tryz.info81 : (Tryz.prog.info? 81).map (fun i => (i.zero, i.size, i.bytes)) = some (some .nilIface, 1, 16) := by kernel_rfl

theorem PLnOwn.below {w w' : World} {base : Nat} {x : Cu.Ln} {a : Option Addr} {c : Nat} (h : PLnOwn w base x a c) (hb : Below w.heap.size w w') : PLnOwn w' base x a c := by
  unfold PLnOwn at h ⊢; split
  · rename_i h0; rw [if_pos h0] at h; exact own_below h hb
  · rename_i h0; rw [if_neg h0] at h; exact own_below h hb
theorem PLnOwn.base {w : World} {base base' : Nat} {x : Cu.Ln} {a : Option Addr} {c : Nat} (h : PLnOwn w base x a c) (hb : base' ≤ base) : PLnOwn w base' x a c := by
  unfold PLnOwn at h ⊢; split
  · rename_i h0; rw [if_pos h0] at h; exact own_base h hb
  · rename_i h0; rw [if_neg h0] at h; exact own_base h hb
theorem PLnOwn.grown {w w2 : World} {base b2 s2 n2 : Nat} {x : Cu.Ln} {a : Option Addr} {c : Nat} {v2 : Value} {x2 : List Value} (h : PLnOwn w base x a c) (h2 : w.ownsRow b2 81 s2 v2 n2 x2) (hg : w.grownBy w2 v2.ownBlock) : PLnOwn w2 base x a c := by
  unfold PLnOwn at h ⊢; split
  · rename_i h0; rw [if_pos h0] at h; exact h.kept hg (own_ne_type h h2 (by decide))
  · rename_i h0; rw [if_neg h0] at h; exact h.kept hg (own_ne_type h h2 (by decide))
theorem PLnOwn.rd {w w2 : World} {base R j : Nat} {s : ByteArray} {x : Cu.Ln} {a : Option Addr} {c : Nat} (h : PLnOwn w base x a c) (hr : Rd w w2 R s j) (hR : R < base) : PLnOwn w2 base x a c := by
  unfold PLnOwn at h ⊢; split
  · rename_i h0; rw [if_pos h0] at h; exact hr.own h hR
  · rename_i h0; rw [if_neg h0] at h; exact hr.own h hR

def PReadRel (s : ByteArray) (w : World) (v x : Value) (wr : World) : Prop :=
  ∃ (i k cap : Nat) (lns : List Cu.Ln) (L : List PLn) (a : Option Addr), i ≤ s.size ∧ lns.length + (k + 1) = 12 ∧ x = .int .i64 ((lns.length : Int) + 1) ∧ v = .slice a L.length cap ∧ L.map Prod.fst = lns.filter isLn ∧ L.length ≤ lns.length ∧
    wr.ownsRow (w.heap.size + 1) 81 1 (.slice a L.length cap) L.length (L.map plv) ∧ PLinesOwn wr (w.heap.size + 1) L ∧ Below w.heap.size w wr ∧ RdBlk wr w.heap.size s i ∧
    Cu.readGo s.data.toList (k + 1) i lns = Cu.readGo s.data.toList 12 0 []

/-- What holds behind the reading of one line. -/
def PReadMid (s : ByteArray) (i : Nat) (lns : List Cu.Ln) (w : World) (v : Value) (wc : World) : Prop :=
  ∃ (cap : Nat) (L : List PLn) (a : Option Addr), (Cu.lineAt s.data.toList i).1 = true ∧ v = .slice a L.length cap ∧ L.map Prod.fst = (lns ++ [(Cu.lineAt s.data.toList i).2.2]).filter isLn ∧ L.length ≤ lns.length + 1 ∧
    wc.ownsRow (w.heap.size + 1) 81 1 (.slice a L.length cap) L.length (L.map plv) ∧ PLinesOwn wc (w.heap.size + 1) L ∧ Below w.heap.size w wc ∧ RdBlk wc w.heap.size s (Cu.lineAt s.data.toList i).2.1

def PReadRes (s : ByteArray) (w : World) (e : Ending) (w' : World) : Prop :=
  (∃ p : Nat, Cu.readGo s.data.toList 12 0 [] = (false, p, []) ∧ e = .returned (.tuple #[.slice none 0 0, faultV p]) ∧ Below w.heap.size w w') ∨
  (∃ (p cap : Nat) (lns : List Cu.Ln) (L : List PLn) (a : Option Addr), Cu.readGo s.data.toList 12 0 [] = (true, p, lns) ∧ L.map Prod.fst = lns.filter isLn ∧ e = .returned (.tuple #[.slice a L.length cap, .nilIface]) ∧
    w'.ownsRow w.heap.size 81 1 (.slice a L.length cap) L.length (L.map plv) ∧ PLinesOwn w' w.heap.size L ∧ Below w.heap.size w w')

theorem noClass {s : List UInt8} {i : Nat} (hm : Cu.more s i = false) : Cu.isClass s i = false := by
  cases hc : Cu.isClass s i with
  | false => rfl
  | true =>
    obtain ⟨h1, h2, h3⟩ := Cu.isClass_true hc
    rcases Cu.more_false hm with h | ⟨_, h⟩
    · omega
    · rw [h] at h2; exact absurd h2 (by decide)
theorem isLn_line {s : List UInt8} {i : Nat} (hm : Cu.more s i = true) (hok : (Cu.lineAt s i).1 = true) : isLn (Cu.lineAt s i).2.2 = true := by
  cases hc : Cu.isClass s i with
  | true =>
    have h2 := (Cu.isClass_true hc).2.1
    have h3 : (Cu.lineAt s i).2.2.name = Cu.byt s i := by unfold Cu.lineAt; rw [if_pos hc]
    unfold isLn
    rw [h3]
    unfold Cu.isName at h2
    simp at h2 ⊢
    omega
  | false =>
    generalize hr : Cu.ruleAt s i = ra at *
    obtain ⟨b, p, op, l, r⟩ := ra
    have e1 := Cu.lineAt_rule hc hm hr
    rw [e1] at hok ⊢
    simp only at hok
    subst hok
    have := ruleAt_op hr
    unfold isLn
    simp [this]
theorem Rd.belowR {w wr w1 : World} {s : ByteArray} {j : Nat} (h : Rd wr w1 w.heap.size s j) (hb : Below w.heap.size w wr) : Below w.heap.size w w1 :=
  hb.grown h.grown hb.size (fun k hk => by simp at hk; omega)
theorem pread_mid {s : ByteArray} {i cap cap' : Nat} {lns : List Cu.Ln} {L : List PLn} {a a' a2 : Option Addr} {c2 : Nat} {w w1 W w2 : World} (hm : Cu.more s.data.toList i = true) (hok : (Cu.lineAt s.data.toList i).1 = true) (hF : L.map Prod.fst = lns.filter isLn) (hLl : L.length ≤ lns.length)
    (hW : Below w1.heap.size w1 W) (hb : Below w.heap.size w w1) (hw : w.heap.size + 1 ≤ w1.heap.size)
    (ho1 : w1.ownsRow (w.heap.size + 1) 81 1 (.slice a L.length cap) L.length (L.map plv)) (hlo : PLinesOwn w1 (w.heap.size + 1) L) (hx : PLnOwn w1 (w.heap.size + 1) (Cu.lineAt s.data.toList i).2.2 a2 c2)
    (hR : RdBlk w1 w.heap.size s (Cu.lineAt s.data.toList i).2.1)
    (ho2 : w2.ownsRow (w.heap.size + 1) 81 1 (.slice a' (L.length + 1) cap') (L.length + 1) (L.map plv ++ [plineV (Cu.lineAt s.data.toList i).2.2 a2 c2])) (hg : W.grownBy w2 (Value.slice a L.length cap).ownBlock) :
    PReadMid s i lns w (.slice a' (L.length + 1) cap') w2 := by
  have hlen : (L ++ [((Cu.lineAt s.data.toList i).2.2, a2, c2)]).length = L.length + 1 := by simp
  have hoW := own_below ho1 hW
  have hs := hW.size
  refine ⟨cap', L ++ [((Cu.lineAt s.data.toList i).2.2, a2, c2)], a', hok, by rw [hlen], ?_, by rw [hlen]; omega, ?_, ?_, ?_, ?_⟩
  · rw [List.map_append, List.filter_append, hF]; simp [isLn_line hm hok]
  · rw [hlen, List.map_append]; exact ho2
  · intro y hy
    rcases List.mem_append.1 hy with h1 | h1
    · exact ((hlo y h1).below hW).grown hoW hg
    · simp at h1; subst h1; exact (hx.below hW).grown hoW hg
  · exact (hb.trans (hW.mono (by omega))).grown hg (by omega) (fun k hk => by have := (ho1.lt k hk).1; omega)
  · exact (hR.below hW hR.lt).grown hg (row_ne_low' ho1 (by omega))

set_option maxRecDepth 100000 in
set_option maxHeartbeats 2000000 in
theorem readLines_any (s : ByteArray) (w : World) (hs : s.size ≤ 200) (hT : Tabs w) (hw2 : 2 < w.heap.size) :
    Calls Tryz.prog 34 #[.string s] w fun e w' => PReadRes s w e w' := by
  obtain ⟨i0, ki, kz0, kz1, kz2⟩ := info_parts Tryz.info81
  go_enter Tryz.func34, Tryz.ntmps34
  go_wp2
  go_loopw [5, 6] (fun v x wr => PReadRel s w v x wr) (fun _ x _ => 13 - (intOf x).toNat)
  case atStart =>
    go_light
    exact ⟨0, 11, 0, [], [], none, by omega, rfl, rfl, rfl, rfl, Nat.le_refl _, World.ownsRow_nil _ _ _ _, (fun x hx => by simp at hx), (Below.refl _ _).alloc (Nat.le_refl _) _, Blk.new w _ _, rfl⟩
  case round =>
    obtain ⟨i, k, cap, lns, L, a, hi, hk, rfl, rfl, hfil, hLl, hown, hlo, hbel, hR, hgo⟩ := hrel
    have HG := hide hgo
    have HO := hide hown
    have HLO := hide hlo
    have HF := hide hfil
    clear hgo hown hlo hfil
    have hRlt := hR.lt
    go_wp2_with fail
    refine (lineEnds_any s i w.heap.size _ hs hi hR).mono ?_
    rintro e w1 ⟨rfl, q, rfl⟩
    go_upto_if 16 with fail
    go_cut [5] (fun v wc => PReadMid s i lns w v wc)
    case first =>
      cases hm : Cu.more s.data.toList i with
      | false =>
        have hc : Cu.isClass s.data.toList i = false := noClass hm
        have e1 := Cu.lineAt_empty hc hm
        have hmid : Hid (PReadMid s i lns w (.slice a L.length cap) (wr.drewN q)) := hide ⟨cap, L, a, by rw [e1], rfl, by rw [e1, List.filter_append, ← unhide HF]; simp [isLn], by omega, unhide HO, unhide HLO, below_drewN hbel q, by rw [e1]; exact hR.drewN q⟩
        go_wp2
        go_meet
        case rel => exact unhide hmid
      | true =>
        have hTw := tabs_grown hT (grown_of_below (below_drewN hbel q) none) (by simp) (by simp)
        have HM := hide hm
        go_wp2_with fail
        refine (pline_any s i w.heap.size _ hs hi (hR.drewN q) hTw hw2 hm).mono ?_
        rintro e w1 (⟨hok, rfl, hrd⟩ | ⟨a2, c2, hok, rfl, hpo, hrd⟩)
        · have hr : Hid (PReadRes s w (.returned (.tuple #[.slice none 0 0, faultV (Cu.lineAt s.data.toList i).2.1])) w1) := hide (Or.inl ⟨_, by rw [← unhide HG, Cu.readGo_bad hok], rfl, hrd.belowR (below_drewN hbel q)⟩)
          clear hok hrd hm hTw
          unfold faultV at hr ⊢
          go_wp2
          go_ret2
          exact unhide hr
        · have hO1 := hide (hrd.own (by exact unhide HO) (by omega : w.heap.size < w.heap.size + 1))
          have hLO1 : Hid (PLinesOwn w1 (w.heap.size + 1) L) := hide (fun y hy => PLnOwn.rd (w := wr.drewN q) (by exact unhide HLO y hy) hrd (by omega))
          have hB1 := hide (hrd.belowR (below_drewN hbel q))
          have hsz1 := hrd.grown.size
          have hsz2 : wr.heap.size ≤ w1.heap.size := hsz1
          have hcap : (L.length + 1) * 16 ≤ 140737488355328 := by omega
          have hmax : L.length + 1 ≤ maxLen := by unfold maxLen; omega
          obtain ⟨tv, vv, hv⟩ := plineV_iface (Cu.lineAt s.data.toList i).2.2 a2 c2
          have HV := hide hv
          have hpo' := hide (hpo.base (by show w.heap.size + 1 ≤ wr.heap.size; omega))
          have HRB := hide hrd.blk
          have HOK := hide hok
          clear hok hpo hrd hm hTw
          go_wp2_with (at_builtin; refine wpList_append_own _ rfl (.tmp 25) (.tmp 27) 77 rfl (w.heap.size + 1) 81 i0 .nilIface 1 16 Tryz.underlying77 ki kz0 kz1 kz2 rfl (by decide) (.slice a L.length cap) L.length (L.map plv) rfl ((unhide hO1).alloc _) ⟨w1.heap.size, 0, none⟩ 1 1 [.iface tv vv] rfl rfl (news_new _ _ rfl _ _) (by intro u hu; simp at hu; subst hu; rfl) hmax hcap (by simp; omega) ?_; intro v' w2 hown' hgrow _; refine Hid.out ?_)
          refine hide ?_
          obtain ⟨a', cap', hv'⟩ := own_form hown'
          subst hv'
          rw [← unhide HV] at hown'
          have hmid := hide (pread_mid (unhide HM) (unhide HOK) (unhide HF) hLl ((Below.refl _ _).alloc (Nat.le_refl _) _) (unhide hB1) (by omega) (unhide hO1) (unhide hLO1) (unhide hpo') (unhide HRB) hown' hgrow)
          clear hown' hgrow
          go_wp2
          go_meet
          case rel => exact unhide hmid
    case rest =>
      obtain ⟨cap2, L2, a2, hok, rfl, hfil, hL2, hown, hlo, hbel2, hR2⟩ := hcut
      have hle := Cu.lineAt_le s.data.toList i (by rw [len_toList]; exact hi)
      rw [len_toList] at hle
      have HE := hide (Cu.readGo_end (k := k) (l := lns) hok)
      have HS := hide (Cu.readGo_stop (k := k) (l := lns) hok)
      have HN := hide (Cu.readGo_go (k := k) (l := lns) hok)
      rw [len_toList] at HE HS HN
      have HF2 := hide hfil
      have HO2 := hide hown
      have HLO2 := hide hlo
      clear hok hfil hown hlo
      generalize Cu.lineAt s.data.toList i = la at *
      obtain ⟨b, p, x⟩ := la
      simp only at hle HE HS HN HF2 hR2
      obtain ⟨c0, c1, c2⟩ := hR2.two
      have hwc := hR2.lt
      by_cases hpe : p = s.size
      · have h1 : ((p : Int) == (s.size : Int)) = true := by rw [hpe]; simp
        have hr : Hid (PReadRes s w (.returned (.tuple #[.slice a2 L2.length cap2, .nilIface])) wc) := hide (Or.inr ⟨p, cap2, lns ++ [x], L2, a2, by rw [← unhide HG, (unhide HE) hpe], unhide HF2, rfl, own_base (unhide HO2) (by omega), fun y hy => (unhide HLO2 y hy).base (by omega), hbel2⟩)
        clear hpe
        go_wp2
        go_ret2
        exact unhide hr
      · have h1 : ((p : Int) == (s.size : Int)) = false := by rw [beq_eq_false_iff_ne]; omega
        go_wp2_with fail
        refine (lineEnds_any s p w.heap.size _ hs hle.2 hR2).mono ?_
        rintro e w3 ⟨rfl, q3, rfl⟩
        by_cases h59 : Cu.byt s.data.toList p = 59
        · have hmp : Cu.more s.data.toList p = false := by unfold Cu.more; rw [h59]; simp
          by_cases hk0 : k = 0
          · have h4 : (((lns.length : Int) + 1) == 12) = true := by rw [beq_iff_eq]; omega
            have hr : Hid (Cu.readGo s.data.toList 12 0 [] = (false, p, [])) := hide (by rw [← unhide HG, (unhide HS) hpe (Or.inr hk0)])
            clear hpe h59 hk0
            go_wp2_with fail
            refine (fault_any s p w.heap.size _ (hR2.drewN q3)).mono ?_
            rintro e w4 ⟨rfl, rfl⟩
            go_wp2
            go_ret2
            exact Or.inl ⟨p, unhide hr, rfl, below_drewN hbel2 q3⟩
          · obtain ⟨m, rfl⟩ : ∃ m, k = m + 1 := ⟨k - 1, by omega⟩
            have h4 : (((lns.length : Int) + 1) == 12) = false := by rw [beq_eq_false_iff_ne]; omega
            have hrd := (Rd.mk (grown_drewN wc q3 (some w.heap.size)) (hR2.drewN q3)).move (p + 1) ((p : Int) + 1) (by omega)
            have hlen : (lns ++ [x]).length = lns.length + 1 := by simp
            have hr : Hid (PReadRel s w (.slice a2 L2.length cap2) (.int .i64 ((lns.length : Int) + 1 + 1)) ((wc.drewN q3).setCell ⟨w.heap.size, 1, none⟩ (.int .i64 ((p : Int) + 1)))) := hide
              ⟨p + 1, m, cap2, lns ++ [x], L2, a2, by omega, by rw [hlen]; omega, by rw [hlen]; go_num, rfl, unhide HF2, by rw [hlen]; omega, hrd.own (by exact unhide HO2) (by omega), fun y hy => PLnOwn.rd (by exact unhide HLO2 y hy) hrd (by omega), hrd.belowR hbel2, hrd.blk, by rw [← unhide HG, (unhide HN) hpe (by rw [h59]; omega)]⟩
            clear hpe h59 hk0 hrd hlen
            go_wp2
            go_roundw
            case rel => first | exact unhide hr | ((repeat apply Exists.intro); exact ⟨unhide hr, rfl⟩)
            case measure => simp [intOf]; omega
        · have hmp : Cu.more s.data.toList p = true := by
            unfold Cu.more; rw [len_toList]
            have : p < s.size := by omega
            simp [this, h59]
          have hr : Hid (Cu.readGo s.data.toList 12 0 [] = (false, p, [])) := hide (by rw [← unhide HG, (unhide HS) hpe (Or.inl h59)])
          clear hpe h59
          go_wp2_with fail
          refine (fault_any s p w.heap.size _ (hR2.drewN q3)).mono ?_
          rintro e w4 ⟨rfl, rfl⟩
          go_wp2
          go_ret2
          exact Or.inl ⟨p, unhide hr, rfl, below_drewN hbel2 q3⟩
end Go.Proofs.YtkinfleecfddlaaGreatDoor

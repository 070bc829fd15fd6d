/- The law Pieces, by what is asked of the program's streams. -/
import Derived.Test.YtbppbejigedioabGreatDoorStJoin
namespace Go.Proofs.YtbppbejigedioabGreatDoor
open Go.RowKit

theorem Held.fram {w wr wr' : World} {b : Nat} {a : Option Addr} {cap : Nat} {out : List Nat} {ok : Bool} {F : Nat → Prop} (h : Held w wr b a cap out ok) (hf : Fram F wr wr') (hb : ¬ F b) (hr : ∀ k, (Value.slice a out.length cap).ownBlock = some k → ¬ F k) : Held w wr' b a cap out ok :=
  ⟨hf.blk h.blk hb, hf.own h.row hr⟩

set_option maxRecDepth 100000 in
set_option maxHeartbeats 2000000 in
theorem pieces_walk (PS : Nat → PSt) (hS : Streamy PS) (hO : Opens PS) (f t : ByteArray) (zs : List Int) (az : Option Addr) (capz : Nat) (w : World) (hf : f.size ≤ 9223372036854775807) (ht : t.size ≤ 1048576) (hz : zs.length ≤ 1048576) (hE : Env w) (hin : IntsIn w w.heap.size az zs) :
    Calls Tryz.prog 4 #[.string f, .string t, .slice az zs.length capz] w fun e w' => e = .returned (.bool true) ∧ Below w.heap.size w w' := by
  have hw3 := hE.2.2.2
  have HENV := hide (fun W (hb : Below w.heap.size w W) => hE.below hb hw3)
  have HP := hide (fun W (hb : Below w.heap.size w W) => (hE.below hb hw3).cut f t hf ht)
  have HIN := hide (fun W (hb : Below w.heap.size w W) => hin.below hb)
  have hol := cutOut_len f t ht
  have HOP := hide (hO f w hf hE)
  have HS := hide hS
  clear hO hE hS hin
  go_enter Tryz.func4, Tryz.ntmps4
  go_wp2_with fail
  refine (unhide HOP).mono ?_
  rintro e w1 (⟨hc, rfl, hb⟩ | ⟨hc, X, F, rfl, hps, hb⟩)
  · have hgd : isGood f.data.toList = false := by unfold isGood; exact decide_eq_false hc
    have dc : (((Cu.check f.data.toList).1 : Int) != 0) = true := by simp; omega
    rw [hgd] at HP
    have HB := hide hb
    clear hb hc
    go_wp2_with fail
    refine (unhide HP w1 (unhide HB)).mono ?_
    rintro e w2 ⟨a, cap, rfl, ho2, hb2⟩
    have HB2 := hide (below_two hb2 (unhide HB))
    clear ho2 hb2
    go_wp2_with fail
    refine (good_any f _ hf).mono ?_
    rintro e w3 ⟨rfl, hb3⟩
    have hB3 := (Blk.new w2 [.slice a (cutOut f.data.toList t.data.toList).length cap, .bool false] 39).below hb3 (by simp)
    obtain ⟨q0, q1, q2⟩ := hB3.two
    have HB3 := hide ((below_put (unhide HB2) _).trans (hb3.mono (below_put (unhide HB2) _).size))
    rw [hgd]
    clear hb3 hB3
    go_wp2_with (go_at_call 13; refine (num_any _ _).mono ?_; rintro e w' ⟨rfl, rfl⟩)
    go_ret
    exact ⟨rfl, unhide HB3⟩
  · have hgd : isGood f.data.toList = true := by unfold isGood; exact decide_eq_true hc
    have hout : cutOut f.data.toList t.data.toList = Cu.cutsR (Cu.readGo f.data.toList 12 0 []).2.2 t.data.toList := by unfold cutOut; rw [if_pos hc]
    rw [hgd, hout] at HP
    rw [hout] at hol
    generalize (Cu.readGo f.data.toList 12 0 []).2.2 = l at *
    have HC0 := hide (Cu.cutsR_empty l t.data.toList)
    rw [len_toList] at HC0
    have HB := hide hb
    have HPS := hide hps
    have HJO := hide (fun (W : World) (F : Nat → Prop) (hp : PS 0 W w.heap.size X l ⟨#[]⟩ F) (hb : Below w.heap.size w W) => joined_any PS (unhide HS) 0 w.heap.size X l F t zs az capz W hp (by omega) (unhide HENV W hb) hw3 hb.size ht hz (unhide HIN W hb))
    have HJN := hide (fun (W : World) (F : Nat → Prop) (hp : PS (0 + t.size + 1) W w.heap.size X l ⟨#[]⟩ F) (hb : Below w.heap.size w W) => joined_any PS (unhide HS) (0 + t.size + 1) w.heap.size X l F t [] none 0 W hp (by omega) (unhide HENV W hb) hw3 hb.size ht (by simp) (fun i x hx => by simp at hx))
    generalize Cu.cutsR l t.data.toList = c at *
    clear hb hc hps hout
    go_wp2_with fail
    refine (unhide HP w1 (unhide HB)).mono ?_
    rintro e w2 ⟨a, cap, rfl, ho2, hb2⟩
    have hfoot := fun k hk => ((unhide HS).foot (unhide HPS) k hk).2
    have hs12 := hb2.size
    have hnF : ∀ k, (Value.slice a c.length cap).ownBlock = some k → ¬ F k := fun k hk hF => by have h1 := (ho2.lt k hk).1; have h2 := hfoot k hF; omega
    have hnB : ¬ F w2.heap.size := fun hF => by have h2 := hfoot _ hF; omega
    have HPS2 := hide ((unhide HS).below (unhide HPS) hb2)
    have HB2 := hide (below_two hb2 (unhide HB))
    have HO2 := hide (own_base ho2 (unhide HB).size)
    clear ho2 hb2
    go_wp2_with fail
    refine (good_any f _ hf).mono ?_
    rintro e w3 ⟨rfl, hb3⟩
    obtain ⟨hD3, hb23, hbw3, _⟩ := held_put (unhide HB2) (unhide HO2) hb3
    have hPS3 := (unhide HS).below (unhide HPS2) hb23
    have hs23 : w2.heap.size < w3.heap.size := hD3.blk.lt
    have hrow3 : ∀ k, (Value.slice a c.length cap).ownBlock = some k → k < w3.heap.size := fun k hk => (hD3.row.lt k hk).2
    rw [hgd]
    have HF1 := hide (unhide HJO w3 F hPS3 hbw3)
    have HD3 := hide hD3
    have HBW3 := hide hbw3
    have HPS3 := hide hPS3
    have HROW := hide hrow3
    have HNF := hide hnF
    have HNB := hide hnB
    obtain ⟨q0, q1, q2⟩ := hD3.blk.two
    clear hb3 hD3 hb23 hbw3 hPS3 hrow3 hnF hnB hfoot
    go_wp2_with (go_at_call 13; refine (num_any _ _).mono ?_; rintro e w' ⟨rfl, rfl⟩)
    go_at_call 14
    refine (unhide HF1).mono ?_
    rintro e w4 ⟨aA, cA, FA, rfl, hoA, hpA, hFA, hnA, hfr⟩
    have hb4 := (unhide HBW3).trans ((unhide HS).base (unhide HPS3) hfr (unhide HBW3).size)
    have hnoA : ∀ k, FA k → k < w3.heap.size → F k := fun k h1 h2 => by
      rcases hFA k h1 with h | h
      · exact h
      · omega
    have hD4 := (unhide HD3).fram hfr (unhide HNB) (unhide HNF)
    have HF2 := hide (unhide HJN w4 FA hpA hb4)
    have HD4 := hide hD4
    have HB4 := hide hb4
    have HPA := hide hpA
    have HNOA := hide hnoA
    have HOA := hide hoA
    have HNA := hide hnA
    clear hoA hpA hFA hnA hfr hb4 hnoA hD4
    go_wp2_with fail
    go_at_call 14
    refine (unhide HF2).mono ?_
    rintro e w5 ⟨aB, cB, FB, rfl, hoB, hpB, hFB, hnB, hfr⟩
    have hb5 := (unhide HB4).trans ((unhide HS).base (unhide HPA) hfr (unhide HB4).size)
    have hD5 := (unhide HD4).fram hfr (fun h => unhide HNB (unhide HNOA _ h hs23)) (fun k hk h => unhide HNF k hk (unhide HNOA k h (unhide HROW k hk)))
    have hA5 := hfr.own (unhide HOA) (unhide HNA)
    have HB5 := hide hb5
    have HSA := hide (fun q => same_quiet c aA a cA cap _ _ w5 hA5 hD5.row (by omega) q)
    have HSB := hide (fun q => same_quiet c aB a cB cap _ _ w5 hoB hD5.row (by omega) q)
    obtain ⟨p0, p1, p2⟩ := hD5.blk.two
    have HC := hide (unhide HC0)
    clear hoB hpB hFB hnB hfr hb5 hD5 hA5 q0 q1 q2
    by_cases h0 : t.size = 0
    · have hc0 : c.length = 0 := (unhide HC0).2 h0
      have dte := isEmpty_of h0
      have dc0 : ((c.length : Int) == 0) = true := by simp [hc0]
      clear h0 hc0
      go_wp2_with fail
      go_at_call 15
      refine (unhide HSA 0).mono ?_
      rintro e w' ⟨rfl, n9, rfl⟩
      go_wp2_with fail
      go_at_call 15
      refine (unhide HSB n9).mono ?_
      rintro e w' ⟨rfl, n8, rfl⟩
      go_wp2
      go_ret
      exact ⟨rfl, below_drawn (unhide HB5) _⟩
    · have hc0 : ¬ c.length = 0 := fun h => h0 ((unhide HC0).1 h)
      have dte := notEmpty_of h0
      have dc0 : ((c.length : Int) == 0) = false := by simpa using hc0
      clear h0 hc0
      go_wp2_with fail
      go_at_call 15
      refine (unhide HSA 0).mono ?_
      rintro e w' ⟨rfl, n9, rfl⟩
      go_wp2_with fail
      go_at_call 15
      refine (unhide HSB n9).mono ?_
      rintro e w' ⟨rfl, n8, rfl⟩
      go_wp2
      go_ret
      exact ⟨rfl, below_drawn (unhide HB5) _⟩
end Go.Proofs.YtbppbejigedioabGreatDoor

/- Parts of the proof: RdK, RdJ. -/
import Derived.Test.YtkoabcncdjmoeaaGreatDoorMu
import Derived.Test.YtkoabcncdjmoeaaGreatDoorMq
set_option linter.unusedSimpArgs false
set_option linter.unusedVariables false
set_option maxRecDepth 1000000
set_option maxHeartbeats 40000000
namespace Go.Proofs.YtkoabcncdjmoeaaGreatDoor
open Go.RowKit Go.Extern.Stop Go.Stop Go.Extern Go.Extern.Rtype
theorem told_nil (e p : Int) (w : World) : Calls Tryz.prog 10 #[.nilIface,.int .i64 e,.int .i64 p] w fun ev w' => ev = .returned (.bool (e == 0)) ∧ Below w.heap.size w w' := by
 go_enter Tryz.func10,Tryz.ntmps10
 go_wp2_with fail
 go_ret
 exact ⟨rfl,Below.refl _ _⟩
theorem told_one (c a e p : Int) (w : World) (hc : (c == 0) = false) (hg : ∀ w',Below w.heap.size w w' -> w'.cell? ⟨0,0,none⟩ = some (.iface 146 (.agg #[.pointer (some ⟨4,28,none⟩)]))) :
  Calls Tryz.prog 10 #[errV c a,.int .i64 e,.int .i64 p] w fun ev w' => ev = .returned (.bool (!(e == 0) && (c == e && a == p))) ∧ Below w.heap.size w w' := by
 have eg := egNilV (.agg #[.int .i64 c,.int .i64 a]);have en := eqNilV (.agg #[.int .i64 c,.int .i64 a])
 have XC := Asd.mk (fun w h => code_one c a w hc h)
 have XP := Asd.mk (fun w h => at_one c a w hc h)
 have HG := Asd.mk hg
 clear hg
 unfold errV at XC XP ⊢
 go_enter Tryz.func10,Tryz.ntmps10
 go_wp2_with fail
 ·have h0 : e = 0 := by assumption
  go_ret
  exact ⟨by rw [h0];rfl,Below.refl _ _⟩
 ·have h0 : ¬ e = 0 := by assumption
  have hb : (e == 0) = false := beq_eq_false_iff_ne.2 h0
  have hn : (e != 0) = true := by rw [bne,hb];rfl
  refine (XC.out _ (HG.out _ (Below.refl _ _))).mono ?_
  rintro ev w1 ⟨rfl,hb1⟩
  have B1 := Asd.mk hb1
  clear hb1
  go_wp2_with fail
  ·have h1 : c = e := by assumption
   subst h1
   refine (XP.out _ (HG.out _ B1.out)).mono ?_
   rintro ev w2 ⟨rfl,hb2⟩
   have B2 := Asd.mk (B1.out.trans (hb2.mono B1.out.size))
   clear hb2
   go_wp2_with fail
   all_goals go_ret
   all_goals exact ⟨by simp_all,B2.out⟩
  ·have h1 : ¬ c = e := by assumption
   go_ret
   exact ⟨by rw [hb,beq_eq_false_iff_ne.2 h1];rfl,B1.out⟩
open Go.RowKit Pv
theorem errT_at {S : Nat -> Nat -> Prop} {w : World} (h : Okay S w) : w.cell? ⟨0,0,none⟩ = some (.iface 146 (.agg #[.pointer (some ⟨4,28,none⟩)])) :=
 (h.pin (0,0,some (.iface 146 (.agg #[.pointer (some ⟨4,28,none⟩)]))) (by unfold ghost;exact List.mem_append_right _ (List.mem_cons_self ..))).2
theorem rdL_drei {C : Cx} {w : World} {d d' d'' : D} {args : List Value} (r : RdL C w [d,d',d''] args) : ∃ v v' v'',args = [v,v',v''] ∧ Pv.Rd C w d v ∧ Pv.Rd C w d' v' ∧ Pv.Rd C w d'' v'' := by
 obtain ⟨v,r1,rfl,h1,v',r2,rfl,h2,v'',r3,rfl,h3,h4⟩ := r
 simp only [RdL] at h4
 subst h4
 exact ⟨v,v',v'',rfl,h1,h2,h3⟩
theorem rd_err {C : Cx} {w : World} {c a : Int} {v : Value} (h : Pv.Rd C w (errD c a) v) : v = errV c a := by
 obtain ⟨u,rfl,vs,rfl,x,r1,rfl,h1,y,r2,rfl,h2,h3⟩ := h
 simp only [Pv.Rd] at h1 h2
 simp only [RdL] at h3
 subst h1 h2 h3
 rfl
theorem told_cp (c a e p : Int) (hc : c ≠ 0) : CP (TT ()) 10 [errD c a,.raw (.int .i64 e),.raw (.int .i64 p)] (· = .raw (.bool (!(e == 0) && (c == e && a == p)))) := by
 refine ⟨callable_at Tryz.func10 (by kernel_rfl) rfl,fun S w args hS r => ?_⟩
 obtain ⟨v,v',v'',rfl,h1,h2,h3⟩ := rdL_drei r
 have h1 := rd_err h1
 simp only [Pv.Rd] at h2 h3
 subst h1 h2 h3
 refine (told_one c a e p w (beq_eq_false_iff_ne.2 hc) fun w' hb => below_cellAt hb (errT_at hS)).mono ?_
 rintro ev w' ⟨rfl,hb⟩
 exact ⟨_,S,.raw _,rfl,rfl,hb,fun _ _ h => h,fun b o hs => ⟨Nat.lt_of_lt_of_le (hS b o hs) hb.size,fun _ => hs⟩,rfl⟩
theorem toldn_cp (e p : Int) : CP (TT ()) 10 [.raw .nilIface,.raw (.int .i64 e),.raw (.int .i64 p)] (· = .raw (.bool (e == 0))) := by
 refine ⟨callable_at Tryz.func10 (by kernel_rfl) rfl,fun S w args hS r => ?_⟩
 obtain ⟨v,v',v'',rfl,h1,h2,h3⟩ := rdL_drei r
 simp only [Pv.Rd] at h1 h2 h3
 subst h1 h2 h3
 refine (told_nil e p w).mono ?_
 rintro ev w' ⟨rfl,hb⟩
 exact ⟨_,S,.raw _,rfl,rfl,hb,fun _ _ h => h,fun b o hs => ⟨Nat.lt_of_lt_of_le (hS b o hs) hb.size,fun _ => hs⟩,rfl⟩
end Go.Proofs.YtkoabcncdjmoeaaGreatDoor

/- limbecklaw08.awake, and what the laws need of the landed package prec. -/
import Derived.Test.YtllehceckdcbaaaPcB
import Derived.Test.YtllehceckdcbaaaPcC
import Derived.Test.YtllehceckdcbaaaPcK
namespace Go.Proofs.Ytllehceckdcbaaa
open Go.RowKit Pv
theorem simple4_cp (k : Int) : CP (TT ()) 16 [.raw (.int .i64 k)] (· = tyD (.mk k 0 ⟨#[]⟩ [] [])) := by
  refine c4_runW (ty_pure _) fun Q hQ => ?_
  have hQ := fun h' => hQ (.agg [.raw (.int .i64 k), .raw (.int .i64 0), .raw (.string ⟨#[]⟩), .raw (.slice none 0 0), .raw (.slice none 0 0)]) h' (.agg (.cons (.refl _) (.cons (.refl _) (.cons (.refl _) (.cons (nil_any 1) (.cons (nil_any 5) .nil))))))
  cbv
  (repeat'((first|(apply zS;kernel_rfl)|(apply zD;decide +kernel)|(apply zE;decide +kernel)|(apply zF;decide +kernel)|(apply zL;decide +kernel)|(apply zM;decide +kernel)|(apply zN;intros)|(apply zO;intros)|(apply zT;omega)|(apply zU;omega)|(apply zP;omega;intros)|(apply zQ;omega;intros)|apply zR);cbv))
  exact ⟨hQ _⟩
theorem fun4_cp (a b : Ty5) : CP (TT ()) 17 [tyD a, tyD b] (· = tyD (.mk 7 0 ⟨#[]⟩ [] [a, b])) := by
  refine c4_runW (ty_pure _) fun Q hQ => ?_
  have hQ := fun tag h' => hQ (.agg [.raw (.int .i64 7), .raw (.int .i64 0), .raw (.string ⟨#[]⟩), .raw (.slice none 0 0), .sl tag 5 [tyD a, tyD b]]) h' (.agg (.cons (.refl _) (.cons (.refl _) (.cons (.refl _) (.cons (nil_any 1) (.cons (untag_any _ _ _) .nil))))))
  obtain ⟨k1, n1, m1, L1, K1, f1, _, _⟩ := c4_node a
  obtain ⟨k2, n2, m2, L2, K2, f2, _, _⟩ := c4_node b
  rw [f1, f2] at hQ ⊢
  cbv
  (repeat'((first|(apply zS;kernel_rfl)|(apply zD;decide +kernel)|(apply zE;decide +kernel)|(apply zF;decide +kernel)|(apply zL;decide +kernel)|(apply zM;decide +kernel)|(apply zN;intros)|(apply zO;intros)|(apply zT;omega)|(apply zU;omega)|(apply zP;omega;intros)|(apply zQ;omega;intros)|apply zR);cbv))
  exact ⟨hQ _ _⟩
def i8 : Ty5 := .mk 1 0 ⟨#[]⟩ [] []
def f8 (a b : Ty5) : Ty5 := .mk 7 0 ⟨#[]⟩ [] [a, b]
theorem i8_ok : okT i8 := ⟨by decide, fun s h => (by cases h), trivial⟩
theorem f8_ok {a b : Ty5} (ha : okT a) (hb : okT b) : okT (f8 a b) := ⟨by decide, fun s h => (by cases h), ha, hb, trivial⟩
set_option maxRecDepth 20000 in
set_option maxHeartbeats 4000000 in
theorem pcawake_cp : CP (TT ()) 10 [] (· = .raw (.bool true)) := by
  have c1 : CP (TT ()) 16 [.raw (.int .i64 1)] (· = tyD i8) := simple4_cp 1
  have c2 := dyn4_cp
  have c3 : CP (TT ()) 17 [tyD i8, tyD dynT] (· = tyD (f8 i8 dynT)) := fun4_cp i8 dynT
  have c4 : CP (TT ()) 17 [tyD dynT, tyD i8] (· = tyD (f8 dynT i8)) := fun4_cp dynT i8
  have c5 : CP (TT ()) 17 [tyD i8, tyD i8] (· = tyD (f8 i8 i8)) := fun4_cp i8 i8
  have o1 := f8_ok i8_ok dynT_ok
  have o2 := f8_ok dynT_ok i8_ok
  have o3 := f8_ok i8_ok i8_ok
  have c6 : CP (TT ()) 26 [tyD (f8 i8 dynT), tyD (f8 dynT i8)] (· = .tup [tyD (f8 i8 i8), .raw (.bool true)]) := by
    have c := pfuse_cp (f8 i8 dynT) (by decide) o1 (f8 dynT i8) o2
    rwa [show optP (fuseT (f8 i8 dynT) (f8 dynT i8)) = .tup [tyD (f8 i8 i8), .raw (.bool true)] by kernel_rfl] at c
  have c7 : CP (TT ()) 27 [tyD (f8 i8 i8), .raw (.int .i64 2)] (· = .tup [tyD (f8 i8 dynT), .raw (.bool true)]) := by
    have c := pcut_cp (f8 i8 i8) (by decide) 2 (by decide)
    rwa [show cutR2 (f8 i8 i8) 2 = .tup [tyD (f8 i8 dynT), .raw (.bool true)] by kernel_rfl] at c
  have c8 : CP (TT ()) 9 [tyD (f8 i8 i8), tyD (f8 i8 i8)] (· = .raw (.bool true)) := by
    have c := sameq_cp _ _ o3 o3
    rwa [same_refl] at c
  have c9 : CP (TT ()) 9 [tyD (f8 i8 dynT), tyD (f8 i8 dynT)] (· = .raw (.bool true)) := by
    have c := sameq_cp _ _ o1 o1
    rwa [same_refl] at c
  have c10 : CP (TT ()) 28 [tyD (f8 i8 i8), tyD (f8 i8 dynT)] (· = .raw (.bool true)) := by
    have c := pless_cp (f8 i8 i8) (by decide) o3 (f8 i8 dynT) o1
    rwa [show lessT (f8 i8 i8) (f8 i8 dynT) = true by kernel_rfl] at c
  have c11 : CP (TT ()) 28 [tyD (f8 i8 dynT), tyD (f8 i8 i8)] (· = .raw (.bool false)) := by
    have c := pless_cp (f8 i8 dynT) (by decide) o1 (f8 i8 i8) o3
    rwa [show lessT (f8 i8 dynT) (f8 i8 i8) = false by kernel_rfl] at c
  have p1 := ty_pure i8
  have p2 := ty_pure dynT
  have p3 := ty_pure (f8 i8 dynT)
  have p4 := ty_pure (f8 dynT i8)
  have p5 := ty_pure (f8 i8 i8)
  have p6 : pureD (.tup [tyD (f8 i8 i8), .raw (.bool true)]) = some (.tup [tyD (f8 i8 i8), .raw (.bool true)]) := by simp [pureD, pureL, p5]
  have p7 : pureD (.tup [tyD (f8 i8 dynT), .raw (.bool true)]) = some (.tup [tyD (f8 i8 dynT), .raw (.bool true)]) := by simp [pureD, pureL, p3]
  generalize f8 i8 dynT = t1 at c3 c6 c7 c9 c10 c11 p3 p7
  generalize f8 dynT i8 = t2 at c4 c6 p4
  generalize f8 i8 i8 = t3 at c5 c6 c7 c8 c10 c11 p5 p6
  generalize i8 = t4 at c1 c3 c4 c5 p1
  generalize dynT = t5 at c2 c3 c4 p2
  clear o1 o2 o3
  obtain ⟨k1, n1, m1, L1, K1, f1, _, _⟩ := c4_node t1
  obtain ⟨k2, n2, m2, L2, K2, f2, _, _⟩ := c4_node t2
  obtain ⟨k3, n3, m3, L3, K3, f3, _, _⟩ := c4_node t3
  obtain ⟨k4, n4, m4, L4, K4, f4, _, _⟩ := c4_node t4
  obtain ⟨k5, n5, m5, L5, K5, f5, _, _⟩ := c4_node t5
  rw [f1] at c3 c6 c7 c9 c10 c11 p3 p7
  rw [f2] at c4 c6 p4
  rw [f3] at c5 c6 c7 c8 c10 c11 p5 p6
  rw [f4] at c1 c3 c4 c5 p1
  rw [f5] at c2 c3 c4 p2
  refine c4_run fun Q hQ => ?_
  cbv
  (repeat'((first|(apply zS;kernel_rfl)|(apply zD;decide +kernel)|(apply zE;decide +kernel)|(apply zF;decide +kernel)|(apply zL;decide +kernel)|(apply zM;decide +kernel)|(apply zN;intros)|(apply zO;intros)|(apply zT;omega)|(apply zU;omega)|(apply zP;omega;intros)|(apply zQ;omega;intros)|apply zR);cbv))
  refine .one c1 rfl p1 ?_
  cbv
  (repeat'((first|(apply zS;kernel_rfl)|(apply zD;decide +kernel)|(apply zE;decide +kernel)|(apply zF;decide +kernel)|(apply zL;decide +kernel)|(apply zM;decide +kernel)|(apply zN;intros)|(apply zO;intros)|(apply zT;omega)|(apply zU;omega)|(apply zP;omega;intros)|(apply zQ;omega;intros)|apply zR);cbv))
  refine .one c2 rfl p2 ?_
  cbv
  (repeat'((first|(apply zS;kernel_rfl)|(apply zD;decide +kernel)|(apply zE;decide +kernel)|(apply zF;decide +kernel)|(apply zL;decide +kernel)|(apply zM;decide +kernel)|(apply zN;intros)|(apply zO;intros)|(apply zT;omega)|(apply zU;omega)|(apply zP;omega;intros)|(apply zQ;omega;intros)|apply zR);cbv))
  refine .one c3 (cons_pure p1 (cons_pure p2 rfl)) p3 ?_
  cbv
  (repeat'((first|(apply zS;kernel_rfl)|(apply zD;decide +kernel)|(apply zE;decide +kernel)|(apply zF;decide +kernel)|(apply zL;decide +kernel)|(apply zM;decide +kernel)|(apply zN;intros)|(apply zO;intros)|(apply zT;omega)|(apply zU;omega)|(apply zP;omega;intros)|(apply zQ;omega;intros)|apply zR);cbv))
  refine .one c4 (cons_pure p2 (cons_pure p1 rfl)) p4 ?_
  cbv
  (repeat'((first|(apply zS;kernel_rfl)|(apply zD;decide +kernel)|(apply zE;decide +kernel)|(apply zF;decide +kernel)|(apply zL;decide +kernel)|(apply zM;decide +kernel)|(apply zN;intros)|(apply zO;intros)|(apply zT;omega)|(apply zU;omega)|(apply zP;omega;intros)|(apply zQ;omega;intros)|apply zR);cbv))
  refine .one c6 (cons_pure p3 (cons_pure p4 rfl)) p6 ?_
  cbv
  (repeat'((first|(apply zS;kernel_rfl)|(apply zD;decide +kernel)|(apply zE;decide +kernel)|(apply zF;decide +kernel)|(apply zL;decide +kernel)|(apply zM;decide +kernel)|(apply zN;intros)|(apply zO;intros)|(apply zT;omega)|(apply zU;omega)|(apply zP;omega;intros)|(apply zQ;omega;intros)|apply zR);cbv))
  refine .one c7 (cons_pure p5 rfl) p7 ?_
  cbv
  (repeat'((first|(apply zS;kernel_rfl)|(apply zD;decide +kernel)|(apply zE;decide +kernel)|(apply zF;decide +kernel)|(apply zL;decide +kernel)|(apply zM;decide +kernel)|(apply zN;intros)|(apply zO;intros)|(apply zT;omega)|(apply zU;omega)|(apply zP;omega;intros)|(apply zQ;omega;intros)|apply zR);cbv))
  refine .one c5 (cons_pure p1 (cons_pure p1 rfl)) p5 ?_
  cbv
  (repeat'((first|(apply zS;kernel_rfl)|(apply zD;decide +kernel)|(apply zE;decide +kernel)|(apply zF;decide +kernel)|(apply zL;decide +kernel)|(apply zM;decide +kernel)|(apply zN;intros)|(apply zO;intros)|(apply zT;omega)|(apply zU;omega)|(apply zP;omega;intros)|(apply zQ;omega;intros)|apply zR);cbv))
  refine .one c8 (cons_pure p5 (cons_pure p5 rfl)) rfl ?_
  cbv
  (repeat'((first|(apply zS;kernel_rfl)|(apply zD;decide +kernel)|(apply zE;decide +kernel)|(apply zF;decide +kernel)|(apply zL;decide +kernel)|(apply zM;decide +kernel)|(apply zN;intros)|(apply zO;intros)|(apply zT;omega)|(apply zU;omega)|(apply zP;omega;intros)|(apply zQ;omega;intros)|apply zR);cbv))
  refine .one c3 (cons_pure p1 (cons_pure p2 rfl)) p3 ?_
  cbv
  (repeat'((first|(apply zS;kernel_rfl)|(apply zD;decide +kernel)|(apply zE;decide +kernel)|(apply zF;decide +kernel)|(apply zL;decide +kernel)|(apply zM;decide +kernel)|(apply zN;intros)|(apply zO;intros)|(apply zT;omega)|(apply zU;omega)|(apply zP;omega;intros)|(apply zQ;omega;intros)|apply zR);cbv))
  refine .one c9 (cons_pure p3 (cons_pure p3 rfl)) rfl ?_
  cbv
  (repeat'((first|(apply zS;kernel_rfl)|(apply zD;decide +kernel)|(apply zE;decide +kernel)|(apply zF;decide +kernel)|(apply zL;decide +kernel)|(apply zM;decide +kernel)|(apply zN;intros)|(apply zO;intros)|(apply zT;omega)|(apply zU;omega)|(apply zP;omega;intros)|(apply zQ;omega;intros)|apply zR);cbv))
  refine .one c10 (cons_pure p5 (cons_pure p3 rfl)) rfl ?_
  cbv
  (repeat'((first|(apply zS;kernel_rfl)|(apply zD;decide +kernel)|(apply zE;decide +kernel)|(apply zF;decide +kernel)|(apply zL;decide +kernel)|(apply zM;decide +kernel)|(apply zN;intros)|(apply zO;intros)|(apply zT;omega)|(apply zU;omega)|(apply zP;omega;intros)|(apply zQ;omega;intros)|apply zR);cbv))
  refine .one c11 (cons_pure p3 (cons_pure p5 rfl)) rfl ?_
  cbv
  (repeat'((first|(apply zS;kernel_rfl)|(apply zD;decide +kernel)|(apply zE;decide +kernel)|(apply zF;decide +kernel)|(apply zL;decide +kernel)|(apply zM;decide +kernel)|(apply zN;intros)|(apply zO;intros)|(apply zT;omega)|(apply zU;omega)|(apply zP;omega;intros)|(apply zQ;omega;intros)|apply zR);cbv))
  exact ⟨hQ _⟩
theorem precP : PrecP where
  awake := pcawake_cp
  less := fun a b ha hb hn _ => pless_cp a (by omega) ha b hb
  all := fun a b ha hb hl _ hn _ => pall_cp a b ha hb (by omega) fun t ht => by have := hn t ht; omega
  binds := fun a b ha hb hl _ hn _ => pbinds_cp a b ha hb (by omega) fun t ht => by have := hn t ht; omega
  fuse := fun a b ha hb hn _ => pfuse_cp a (by omega) ha b hb
end Go.Proofs.Ytllehceckdcbaaa

/- The program's fields of a record: their order; slices.SortFunc over them. -/
import Derived.Test.YtbfmaicoefefaaaTyLib
import Derived.Test.YtbfmaicoefefaaaTyN
import Derived.Test.YtbfmaicoefefaaaStrs
set_option linter.unusedSimpArgs false
set_option linter.unusedVariables false
namespace Go.Proofs.Ytbfmaicoefefaaa
open Go.Shelf Go.RowKit Go.Lib Go.Sort
/-- A label with a type's five cells, as they stand in a row of fields. -/
structure FV where
  lb : ByteArray
  k : Int
  n : Int
  nm : ByteArray
  a : Option Addr
  l : Nat
  c : Nat
  a' : Option Addr
  l' : Nat
  c' : Nat
instance : Inhabited FV := ⟨⟨ByteArray.empty, 0, 0, ByteArray.empty, none, 0, 0, none, 0, 0⟩⟩
def FV.enc (x : FV) : List Value := [.string x.lb, .int .i64 x.k, .int .i64 x.n, .string x.nm, .slice x.a x.l x.c, .slice x.a' x.l' x.c']
def cmpS (a b : ByteArray) : Int := if ltS a b = true then -1 else if ltS b a = true then 1 else 0
theorem cmpS_lt (a b : ByteArray) : decide (cmpS a b < 0) = ltS a b := by
  unfold cmpS
  rcases h : ltS a b with _ | _
  · rcases h' : ltS b a with _ | _ <;> simp
  · simp
theorem isnan_any (a : ByteArray) (W : World) : Calls Try.prog 114 #[.string a] W fun e w' => e = .returned (.bool false) ∧ w' = W := by
  go_enter Try.func114, Try.ntmps114
  go_wp2
  go_ret
  exact ⟨ret_bool (by simp), rfl⟩
theorem compare_any (a b : ByteArray) (W : World) : Calls Try.prog 82 #[.string a, .string b] W fun e w' => e = .returned (.int .i64 (cmpS a b)) ∧ w' = W := by
  unfold cmpS ltS
  rcases Bool.eq_false_or_eq_true (Op.bytesLess a.toList b.toList) with h | h
  · go_enter Try.func82, Try.ntmps82
    go_wp2_with (go_at_call 114; refine (isnan_any _ _).mono ?_; rintro e w' ⟨rfl, rfl⟩)
    go_ret
    exact ⟨ret_int (by simp [h]), rfl⟩
  · rcases Bool.eq_false_or_eq_true (Op.bytesLess b.toList a.toList) with h' | h'
    · have he : (a.toList == b.toList) = false := by
        rw [beq_eq_false_iff_ne]
        intro e
        rw [e, less_irr] at h'
        cases h'
      go_enter Try.func82, Try.ntmps82
      go_wp2_with (go_at_call 114; refine (isnan_any _ _).mono ?_; rintro e w' ⟨rfl, rfl⟩)
      all_goals first
        | (exfalso; simp_all; done)
        | go_ret
      all_goals exact ⟨ret_int (by simp_all), rfl⟩
    · have he : (a.toList == b.toList) = true := by
        rw [beq_iff_eq]
        rcases less_total a.toList b.toList with k | k | k
        · rw [k] at h; cases h
        · exact k
        · rw [k] at h'; cases h'
      go_enter Try.func82, Try.ntmps82
      go_wp2_with (go_at_call 114; refine (isnan_any _ _).mono ?_; rintro e w' ⟨rfl, rfl⟩)
      all_goals first
        | (exfalso; simp_all; done)
        | go_ret
      all_goals exact ⟨ret_int (by simp_all), rfl⟩
set_option maxHeartbeats 1000000 in
theorem fcompare_any (x y : FV) (W : World) : Calls Try.prog 57 #[.agg x.enc.toArray, .agg y.enc.toArray] W fun e w' => e = .returned (.int .i64 (cmpS x.lb y.lb)) ∧ ∃ q os', w' = grow (W.drewN q) os' := by
  have hcon := fun W' => compare_any x.lb y.lb W'
  generalize cmpS x.lb y.lb = r at hcon ⊢
  dsimp only [FV.enc]
  go_enter Try.func57, Try.ntmps57
  go_wp2_with (go_at_call 82; refine (hcon _).mono ?_; rintro e w' ⟨rfl, rfl⟩)
  go_ret
  exact ⟨rfl, 0, _, by rw [alloc_eq_grow, alloc_eq_grow, grow_grow]; rfl⟩
theorem fcmpLays (blk off size : Nat) (w : World) : CmpLays Try.prog 57 #[] FV.enc 6 (fun x y => cmpS x.lb y.lb) blk off size w :=
  fun _ _ _ _ x y => fcompare_any x y _
theorem flt (x y : FV) : ltOf (fun x y : FV => cmpS x.lb y.lb) x y = ltS x.lb y.lb := cmpS_lt _ _
theorem fswo : SWO (ltOf fun x y : FV => cmpS x.lb y.lb) where
  irrefl x := by rw [flt]; exact less_irr _
  trans x y z h1 h2 := by rw [flt] at *; exact less_trans _ _ _ h1 h2
  ntrans x y z h1 h2 := by
    rw [flt] at *
    unfold ltS at *
    rw [Bool.eq_false_iff]
    intro h
    rcases less_total y.lb.toList z.lb.toList with k | k | k
    · rw [k] at h2; cases h2
    · rw [← k] at h; rw [h] at h1; cases h1
    · have := less_trans _ _ _ h k
      rw [this] at h1; cases h1
set_option maxHeartbeats 1000000 in
theorem fsort_any (blk off cap : Nat) (d : Array FV) (w : World) (hH : HoldsK FV.enc 6 w blk off d) (hblk : blk < w.heap.size) (hsz : d.size < 4611686018427387904) :
    Calls Try.prog 56 #[.slice (some ⟨blk, off, none⟩) d.size cap, .func (.func 57) #[] #[]] w fun e w' =>
      e = .returned (.tuple #[]) ∧ ∃ d' n os, PermIn 0 d.size d d' ∧ SortedIn (ltOf fun x y : FV => cmpS x.lb y.lb) 0 d.size d' ∧ w' = sortWorldK FV.enc 6 w blk off n d' os := by
  have eg : ∀ args w, (callFunc 57 args).run Try.prog w = .ok (.enter 57 args) w := enters_of Try.func57 (by kernel_rfl) rfl
  exact AnyQ.slices_SortFunc lb_laysF6_f40 6 Try.isAgg66 Try.sizeOf66 FV.enc (fun _ => rfl) (fun x v hv => by simp [FV.enc] at hv; rcases hv with rfl | rfl | rfl | rfl | rfl | rfl <;> rfl) (fun x y => cmpS x.lb y.lb) fswo 57 #[] blk off cap d w eg (fcmpLays blk off d.size w) hH hblk hsz
end Go.Proofs.Ytbfmaicoefefaaa

/-
  The library's sort, of two entries in the wrong order.
-/
import Derived.Test.YtpdlbepkkfoadaaSo
namespace Go.Proofs.Ytpdlbepkkfoadaa
open Go.RowKit
set_option maxRecDepth 100000
set_option maxHeartbeats 4000000
theorem pdq_two (G : Nat) (L : Int) (ka va kb vb : Option Addr) (kc vn vc kc' vn' vc' : Nat) (k0 k1 : Int) (w : World)
    (hrow : Two w G (.slice ka 1 kc) (.int .u64 1) (.int .i64 k0) (.slice va vn vc) (.slice kb 1 kc') (.int .u64 2) (.int .i64 k1) (.slice vb vn' vc'))
    (h0 : Bytes w (.slice ka 1 kc) [97#8]) (h1 : Bytes w (.slice kb 1 kc') [97#8]) :
    Calls Try.prog 53 #[.slice (some ⟨G, 0, none⟩) 2 2, .int .i64 0, .int .i64 2, .int .i64 L, .func (.func 16) #[] #[]] w fun e w' => (∃ v, e = .returned v) ∧ Two w' G (.slice kb 1 kc') (.int .u64 2) (.int .i64 k1) (.slice vb vn' vc') (.slice ka 1 kc) (.int .u64 1) (.int .i64 k0) (.slice va vn vc) ∧ Turns (fun j => j = G) w w' := by
  have H0 := hide h0
  have H1 := hide h1
  have HR := hide hrow
  clear h0 h1 hrow
  go_enter Try.func53, Try.ntmps53
  go_wp2_with fail
  refine wp_loop_once ?_
  go_wp2_with fail
  refine (ins_two G ka va kb vb kc vn vc kc' vn' vc' k0 k1 _ HR.out H0.out H1.out).mono ?_
  rintro e w1 ⟨⟨v, rfl⟩, hr, ht⟩
  have HR1 := hide hr
  have HT := hide ht
  clear hr ht
  go_wp2_with fail
  refine bodyPost_ret (results_none Try.results53 _ _ _) rfl ?_
  exact ⟨⟨_, rfl⟩, HR1.out, HT.out⟩
theorem sort_two (G : Nat) (ka va kb vb : Option Addr) (kc vn vc kc' vn' vc' : Nat) (k0 k1 : Int) (w : World)
    (hrow : Two w G (.slice ka 1 kc) (.int .u64 1) (.int .i64 k0) (.slice va vn vc) (.slice kb 1 kc') (.int .u64 2) (.int .i64 k1) (.slice vb vn' vc'))
    (h0 : Bytes w (.slice ka 1 kc) [97#8]) (h1 : Bytes w (.slice kb 1 kc') [97#8]) :
    Calls Try.prog 35 #[.slice (some ⟨G, 0, none⟩) 2 2, .func (.func 16) #[] #[]] w fun e w' => (∃ v, e = .returned v) ∧ Two w' G (.slice kb 1 kc') (.int .u64 2) (.int .i64 k1) (.slice vb vn' vc') (.slice ka 1 kc) (.int .u64 1) (.int .i64 k0) (.slice va vn vc) ∧ Turns (fun j => j = G) w w' := by
  go_enter Try.func35, Try.ntmps35
  go_wp2_with fail
  refine (len_any 2 (by decide) _).mono ?_
  rintro e w1 ⟨rfl, rfl⟩
  go_wp2_with fail
  refine (pdq_two G _ ka va kb vb kc vn vc kc' vn' vc' k0 k1 _ hrow h0 h1).mono ?_
  rintro e w1 ⟨⟨v, rfl⟩, hr, ht⟩
  go_wp2_with fail
  go_end0
  exact ⟨⟨_, rfl⟩, hr, ht⟩
end Go.Proofs.Ytpdlbepkkfoadaa

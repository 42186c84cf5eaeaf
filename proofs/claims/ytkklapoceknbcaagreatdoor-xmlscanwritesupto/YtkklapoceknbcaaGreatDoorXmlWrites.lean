/- Tokens are just the text that the reference says, or its error: the law XmlscanWrites. -/
import Derived.Test.YtkklapoceknbcaaGreatDoorXmlRfE
import Derived.Test.YtkklapoceknbcaaGreatDoorXmlTexts
namespace Go.Proofs.YtkklapoceknbcaaGreatDoor
open Go.RowKit
set_option maxRecDepth 100000 in
set_option maxHeartbeats 4000000 in
theorem writes_walk (ts : List BTok) (a : Option Addr) (cap : Nat) (w : World) (hv : ToksArg w a ts) (hn : ts.length ≤ 1048576) (hs : ∀ t ∈ ts, Small t) (hE : XEnv w.heap.size w) :
    Calls Tryz.prog 3 #[.slice a ts.length cap] w fun e w' => e = .returned (.bool true) ∧ Below w.heap.size w w' := by
  have HE := hide hE
  have HW := hide (write_any ts a cap w hv hn hs w.heap.size (Nat.le_refl _) hE)
  have HW2 := hide (fun W (hb : Below w.heap.size w W) => refWrite_any ts a cap W (hv.below hb) hn hs w.heap.size hb.size (hE.low hb))
  clear hv hs hE
  obtain ⟨S, c, hR⟩ : ∃ S c, writeR ts = (S, c) := ⟨_, _, rfl⟩
  rw [hR] at HW HW2
  simp only at HW HW2
  clear hR
  go_enter Tryz.func3, Tryz.ntmps3
  go_wp2_with fail
  refine (unhide HW).mono ?_
  rintro e w1 ⟨rfl, hb1⟩
  go_wp2_with fail
  refine (unhide HW2 _ hb1).mono ?_
  rintro e w2 ⟨rfl, hb2⟩
  have hb02 := Below.then hb1 hb2
  have HL := hide (live_any w2 ((unhide HE).at hb02))
  go_wp2_with fail
  refine (unhide HL).mono ?_
  rintro e w3 ⟨rfl, hb3⟩
  have e1 : (S.toList == S.toList) = true := by simp
  go_wp2
  go_ret
  exact ⟨rfl, Below.then hb02 hb3⟩
end Go.Proofs.YtkklapoceknbcaaGreatDoor

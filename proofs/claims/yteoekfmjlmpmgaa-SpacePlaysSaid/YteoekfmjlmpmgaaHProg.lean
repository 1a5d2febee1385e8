/- The program's space keeps all contracts that layer 13's statements need. No statement is proved here. -/
import Derived.Test.YteoekfmjlmpmgaaHPr11
namespace Go.Proofs.Yteoekfmjlmpmgaa
open Go.RowKit
set_option maxRecDepth 100000

theorem p13_of (W : World) : P13 W (PSp W.heap.size) where
  lt := fun h => h.lt
  keep := fun h hk => h.keep hk
  three := fun h => by obtain ⟨g, c, vf, vw, H, Wt, rfl, h1, h2, h3, h4, h5, h6, h7⟩ := h; exact h5
  len := fun h => by obtain ⟨g, c, vf, vw, H, Wt, rfl, h1, h2, h3, h4, h5, h6, h7⟩ := h; exact ⟨h6, h7⟩
  new := fun pages a n c us w hw hp hi hn _ _ hl _ hu => new_any W.heap.size pages hp a n c us w hw.size hi hn hl hu
  take := fun F a L w _ h => take_any W.heap.size F a L w h
  drop := fun F a L n w _ h hn => drop_any W.heap.size F a L n hn w h
  back := fun F a L n w _ h hn => back_any W.heap.size F a L n hn w h
  turn := fun F a L w _ h => turn_any W.heap.size F a L w h
  free := fun F a L w _ h => free_any W.heap.size F a L w h
  used := fun F a L w _ h => used_any W.heap.size F a L w h
  clone := fun F a L w _ h => (clone_any W.heap.size F a L w h).mono fun e w' k => by
    obtain ⟨F2, b, he, hb, h2, h3⟩ := k
    have hlt := h.lt
    exact ⟨F, F2, b, he, Only.of_below hb, h.keep fun x hx => hb.block x (hlt x hx).2, fun x hx => .inl hx, h2, h3, fun x hx hn => by have := (hlt x hx).2; have := h3 x hn; omega⟩
#print axioms p13_of
end Go.Proofs.Yteoekfmjlmpmgaa

import Derived.Test.YtblkkhfdeaaidaaGreatDoorChartOfAndSpreadMath
import Derived.Test.YtblkkhfdeaaidaaGreatDoorTxPaAndLfp
import Derived.Test.YtblkkhfdeaaidaaGreatDoorRows
import Derived.Test.YtblkkhfdeaaidaaGreatDoorMathAndTxSc
import Derived.WalkKit
import Derived.WalkSpells
import Derived.Deep.QuietTactic
import Derived.BigQuiet
import Derived.StillTailTactics
import Derived.Test.YtblkkhfdeaaidaaGreatDoorTxNuAndHeldSeq
namespace Go.Proofs.YtblkkhfdeaaidaaGreatDoor
def yO(Nu:List Bool)(l:List Sy):Bool:=l.all fun s=> !s.1&&Nu.getD s.2.toNat false
def o5(Nu:List Bool)(Fi:List (List Bool))(T:Nat)(l:List Sy)(t:Nat):Bool:=(wZ Nu Fi T t l).1
section
variable{T N:Nat}{R:List Ru}{OL:List (List It)}{NL:List (List Int)}{Ls:List aI}{dom:Nat×Nat->Option Nat}{Nu:List Bool}{Fi:List (List Bool)}{X:F9}
abbrev Ga(T:Nat)(R:List Ru)(Nu:List Bool)(Fi:List (List Bool))(NL:List (List Int))(Ls:List aI):=qB T R (o5 Nu Fi T) (yO Nu) NL Ls
end
section
variable(OL:List (List It))(NL:List (List Int))(R:List Ru)(T:Nat)(Nu:List Bool)(Fi:List (List Bool))
end
section
variable{T N:Nat}{R:List Ru}{OL:List (List It)}{NL:List (List Int)}{Ls:List aI}{dom:Nat×Nat->Option Nat}{Nu:List Bool}{Fi:List (List Bool)}{X:F9}
end
end Go.Proofs.YtblkkhfdeaaidaaGreatDoor
namespace Go.Proofs.YtblkkhfdeaaidaaGreatDoor
open Go.RowKit
theorem Tryz.infoBool:(Tryz.prog.info? 4).map (fun i=>(i.zero,i.size,i.bytes))=some (some (.bool false),1,1):=by kernel_rfl
theorem Au(n:Nat)(hn:n<=1000000)(u:World):(Instr.makeSlice 53 (.int .i64 n) (.int .i64 n)).run Tryz.prog u= .ok (.slice (some ⟨u.heap.size,0,none⟩) n n) (u.alloc (.cells (madeCells #[.bool false] n) 4)):=by
 obtain⟨i0,hi,hz0,hz1,hz2⟩:=info_parts Tryz.infoBool;have h:=run_make (P:=Tryz.prog) u 53 4 i0 (.bool false) Tryz.underlying53 hi hz0 .i64 .i64 n n (by omega) (Int.le_refl _) (by rw[hz2];omega) (by omega);simpa [hz1,Value.cells] using h
def eU(w:World)(B g N:Nat)(X:List Bool):Prop:=w.ownsRow B 4 1 (.slice (some ⟨g,0,none⟩) N N) N (X.map Value.bool)
section
variable{w:World}{B g N:Nat}{X:List Bool}
theorem eU.len(h:eU w B g N X):X.length=N:=by
 have:(X.map Value.bool).length=N*1:=h.1;simpa using this
theorem eU.cell(h:eU w B g N X){m:Nat}(hm:m<N):w.cell? ⟨g,m,none⟩=some (.bool (X.getD m false))/\w.frozen? ⟨g,m,none⟩=false:=by
 have hl:=h.len;refine⟨?_,World.ownsRow.frozenAt h m⟩;rw[World.ownsRow.cellAt h m (by omega)];simp[List.getD,show m<X.length by omega]
theorem eU.set(h:eU w B g N X)(m:Nat)(v:Bool):eU (w.setCell ⟨g,m,none⟩ (.bool v)) B g N (X.set m v):=by
 have:=(World.ownsRow.stored h m (.bool v)).1;unfold eU
 rwa [List.map_set]
theorem eU.ge(h:eU w B g N X):N≠0->B<=g:=fun hN=>by
 obtain⟨g',c,e,h1,_⟩:=World.ownsRow.form h (by omega);cases e;exact h1
end
theorem KH(w:World){N:Nat}(hN:N<=maxLen):eU (w.alloc (.cells (madeCells #[.bool false] N) 4)) w.heap.size w.heap.size N (List.replicate N false):=by
 have:=World.ownsRow_lit (base:=w.heap.size) (e:=4) (size:=1) w (madeCells #[.bool false] N) N (Nat.le_refl _) hN (by simp[size_madeCells]);rw[toList_madeCells_one]at this;unfold eU;simpa using this
theorem eU.below{w w':World}{B g N:Nat}{X:List Bool}(h:eU w B g N X)(hb:Below w.heap.size w w'):eU w' B g N X:=own_below h hb fun k hk=>(World.ownsRow.lt h k hk).2
theorem eU.mono{w:World}{B B' g N:Nat}{X:List Bool}(h:eU w B g N X)(hB:B'<=B):eU w B' g N X:=jf h hB
section
variable{ι:Type}{w w':World}{B:Nat}{c c':dw ι}{X X':ι->List Bool}
theorem ZW(w:World)(B:Nat){c:dw ι}{X:ι->List Bool}(h:∀i,c.dom i=none):Bt w B c X:=
 ⟨fun i r hr=>by simp[dw.P,h i]at hr,fun i j a b _ ha=>by simp[dw.P,h i]at ha⟩
theorem Gb(i:ι){n:Nat}(h:Bt w B c X)(hb:Below w.heap.size w w')(hd:c'.dom i=some n)(hrow:w'.ownsRow B 4 1 (c'.V i) n ((X' i).map Value.bool))(hnew:∀g,(c'.V i).ownBlock=some g->w.heap.size<=g)
 (he:∀j,j≠i->∀m,c'.dom j=some m->c.dom j=some m/\c'.V j=c.V j/\X' j=X j):Bt w' B c' X':=by
 have old:∀j r,j≠i->c'.P X' j=some r->c.P X j=some r:=fun j r hj hr=>by
  cases hm:c'.dom j with
  |none=>simp[dw.P,hm]at hr
  |some m=>
   obtain⟨h1,h2,h3⟩:=he j hj m hm;simp only[dw.P,hm,h1,Option.map_some,h2,h3]at hr⊢;exact hr
 have new:∀r,c'.P X' i=some r->r=⟨c'.V i,4,1,n,(X' i).map Value.bool⟩:=fun r hr=>by
  rw[dw.yC hd]at hr;exact(Option.some.inj hr).symm
 have hO:=ah.below h hb (Nat.le_refl _);refine⟨fun j r hr=> ?_,fun j k a b hjk ha hb' g h1 h2=> ?_⟩
 ·by_cases hj:j=i
  ·subst hj
   rw[new r hr];exact hrow
  ·exact hO.own j r (old j r hj hr)
 ·by_cases hj:j=i
  ·subst hj
   have hk:k≠j:=fun e=>hjk e.symm;rw[new a ha]at h1;have:=hnew g h1;have:=(ah.lt h (old k b hk hb') h2).2;omega
  ·by_cases hk:k=i
   ·subst hk
    rw[new b hb']at h2;have:=hnew g h2;have:=(ah.lt h (old j a hj ha) h1).2;omega
   ·exact ah.apart h j k a b hjk (old j a hj ha) (old k b hk hb') g h1 h2
end
def set2(F:List (List Bool))(n t:Nat):List (List Bool):=F.set n ((F.getD n []).set t true)
theorem ZX(F:List (List Bool))(n t:Nat):(set2 F n t).length=F.length:=by simp[set2]
theorem Dk(F:List (List Bool))(n t m:Nat):(set2 F n t).getD m []=if m=n/\n<F.length then (F.getD n []).set t true else F.getD m []:=by
 unfold set2;by_cases h:m=n
 ·subst h
  by_cases hl:m<F.length
  ·simp[List.getD,hl]
  ·simp[List.getD,hl]
 ·have h':n≠m:=fun e=>h e.symm
  simp[List.getD,List.getElem?_set_ne h',h]
inductive Ix where
 |st|null|fh|gh
 |f (n:Nat)
 |g (n:Nat)
 deriving DecidableEq
def bB(sb T N mf mg:Nat)(nv fv gv:Value)(vf vg:Nat->Value)(Nu:List Bool)(Fi Fo:List (List Bool)):Ix->Option Row
 | .st=>some ⟨.slice (some ⟨sb,0,none⟩) 1 1,56,3,1,[nv,fv,gv]⟩
 | .null=>some ⟨nv,4,1,N,Nu.map Value.bool⟩
 | .fh=>some ⟨fv,53,1,mf,(List.range mf).map vf⟩
 | .gh=>some ⟨gv,53,1,mg,(List.range mg).map vg⟩
 | .f n=>if n<mf then some ⟨vf n,4,1,T,(Fi.getD n []).map Value.bool⟩ else none
 | .g n=>if n<mg then some ⟨vg n,4,1,T+1,(Fo.getD n []).map Value.bool⟩ else none
section
variable{w:World}{base sb T N mf mg:Nat}{nv fv gv:Value}{vf vg:Nat->Value}{Nu:List Bool}{Fi Fo:List (List Bool)}
theorem ah.fields(h:ah w base (bB sb T N mf mg nv fv gv vf vg Nu Fi Fo)):
 w.cell? ⟨sb,0,none⟩=some nv/\w.cell? ⟨sb,1,none⟩=some fv/\w.cell? ⟨sb,2,none⟩=some gv/\(∀j,w.frozen? ⟨sb,j,none⟩=false):=by
 have hh:=h.own .st _ rfl;simp only at hh;exact⟨hh.cellAt 0 (by omega),hh.cellAt 1 (by omega),hh.cellAt 2 (by omega),hh.frozenAt⟩
theorem ah.ZY(h:ah w base (bB sb T N mf mg nv fv gv vf vg Nu Fi Fo))(hF:Fo.length=mg){n fg fc:Nat}(hn:n<mg)(hv:vg n= .slice (some ⟨fg,0,none⟩) (T+1) fc)(t:Nat):
 ah (w.setCell ⟨fg,t,none⟩ (.bool true)) base (bB sb T N mf mg nv fv gv vf vg Nu Fi (set2 Fo n t)):=by
 have:=h.store (i:= .g n) (g:=fg) (n:=T+1) (cap:=fc) (e:=4) (size:=1) (xs:=(Fo.getD n []).map Value.bool) (by simp[bB,hn,hv]) t (.bool true)
 have e:upd (bB sb T N mf mg nv fv gv vf vg Nu Fi Fo) (.g n) ⟨.slice (some ⟨fg,0,none⟩) (T+1) fc,4,1,T+1,((Fo.getD n []).map Value.bool).set t (.bool true)⟩=bB sb T N mf mg nv fv gv vf vg Nu Fi (set2 Fo n t):=by
  funext x
  cases x with
  |g m=>
   by_cases hm:m=n
   ·subst hm
    simp only[upd,bB,if_true,hn];rw[Dk,if_pos ⟨rfl,by omega⟩,List.map_set,hv]
   ·have:Ix.g m≠Ix.g n:=fun e=>hm (by cases e;rfl)
    simp only[upd,bB,if_neg this];have e2:∀X:List (List Bool),(set2 X n t).getD m []=X.getD m []:=fun X=>by rw[Dk,if_neg (fun e=>hm e.1)]
    rw[e2]
  |_=>simp[upd,bB]
 rwa [e]at this
theorem ah.make{ι:Type}[DecidableEq ι]{w:World}{base:Nat}{P:ι->Option Row}(h:ah w base P)(i:ι)(n:Nat)(hb:base<=w.heap.size)(hn:n<=maxLen):
 ah (w.alloc (.cells (madeCells #[.bool false] n) 4)) base (upd P i ⟨.slice (some ⟨w.heap.size,0,none⟩) n n,4,1,n,(List.replicate n false).map Value.bool⟩):=by
 refine h.new i (World.grownBy_alloc w _ none) ?_ (fun g hg=>by simpa [Value.ownBlock] using hg.symm);have:=World.ownsRow_lit (base:=base) (e:=4) (size:=1) w (madeCells #[.bool false] n) n hb hn (by simp[size_madeCells]);rw[toList_madeCells_one]at this;simpa using this
theorem ah.Z0{m:Nat}(h:ah w base (bB sb T N m mg nv fv gv vf vg Nu Fi Fo))(hF:Fi.length=m)(hb:base<=w.heap.size)(hT:T<=maxLen){w1:World}{o:Obj}{g cap:Nat}
 (hg:((w.alloc (.cells (madeCells #[.bool false] T) 4)).alloc o).drew.grownBy w1 fv.ownBlock)
 (hown:w1.ownsRow base 53 1 (.slice (some ⟨g,0,none⟩) (m+1) cap) (m+1) ((List.range m).map vf++[.slice (some ⟨w.heap.size,0,none⟩) T T])) (hat:fv.ownBlock=some g\/g=w.heap.size+2):
 ah (w1.setCell ⟨sb,1,none⟩ (.slice (some ⟨g,0,none⟩) (m+1) cap)) base
  (bB sb T N (m+1) mg nv (.slice (some ⟨g,0,none⟩) (m+1) cap) gv (fun n=>if n=m then .slice (some ⟨w.heap.size,0,none⟩) T T else vf n) vg Nu (Fi++[List.replicate T false]) Fo):=by
 have h1:=((h.make (.f m) T hb hT).alloc o).drew
 have h2:=h1.turn (i:= .fh) (r:=⟨fv,53,1,m,(List.range m).map vf⟩) (r':=⟨.slice (some ⟨g,0,none⟩) (m+1) cap,53,1,m+1,(List.range m).map vf++[.slice (some ⟨w.heap.size,0,none⟩) T T]⟩)
  (by rw[ql _ (by simp)];rfl) hg hown (fun k hk=>by
   simp only[Value.ownBlock,Option.some.injEq]at hk;subst hk
   simpa using hat)
 have h3:=h2.store (i:= .st) (g:=sb) (n:=1) (cap:=1) (e:=56) (size:=3) (xs:=[nv,fv,gv]) (by rw[ql _ (by simp),ql _ (by simp)];rfl) 1 (.slice (some ⟨g,0,none⟩) (m+1) cap)
 have e:upd (upd (upd (bB sb T N m mg nv fv gv vf vg Nu Fi Fo) (.f m) ⟨.slice (some ⟨w.heap.size,0,none⟩) T T,4,1,T,(List.replicate T false).map Value.bool⟩) .fh
  ⟨.slice (some ⟨g,0,none⟩) (m+1) cap,53,1,m+1,(List.range m).map vf++[.slice (some ⟨w.heap.size,0,none⟩) T T]⟩) .st ⟨.slice (some ⟨sb,0,none⟩) 1 1,56,3,1,[nv,fv,gv].set 1 (.slice (some ⟨g,0,none⟩) (m+1) cap)⟩=
  bB sb T N (m+1) mg nv (.slice (some ⟨g,0,none⟩) (m+1) cap) gv (fun n=>if n=m then .slice (some ⟨w.heap.size,0,none⟩) T T else vf n) vg Nu (Fi++[List.replicate T false]) Fo:=by
  funext x
  cases x with
  |st=>simp[upd,bB]
  |null=>simp[upd,bB]
  |gh=>simp[upd,bB]
  |g n=>simp[upd,bB]
  |fh=>
   simp only[upd,bB];simp only[reduceCtorEq,if_false,if_true]
   congr 2
   rw[List.range_succ,List.map_append]
   congr 1
   ·refine List.map_congr_left fun a ha=> ?_
    have:=List.mem_range.1 ha;rw[if_neg (by omega)]
   ·simp
  |f n=>
   simp only[upd,bB,reduceCtorEq,if_false,Ix.f.injEq];by_cases hn:n=m
   ·subst hn
    simp[List.getD,hF]
   ·by_cases hlt:n<m
    ·rw[if_neg hn,if_pos hlt,if_pos (by omega),if_neg hn]
     simp[List.getD,List.getElem?_append_left (show n<Fi.length by omega)]
    ·rw[if_neg hn,if_neg hlt,if_neg (by omega)]
 rwa [e]at h3
theorem ah.Z4{m:Nat}(h:ah w base (bB sb T N mf m nv fv gv vf vg Nu Fi Fo))(hF:Fo.length=m)(hb:base<=w.heap.size)(hT:T+1<=maxLen){w1:World}{o:Obj}{g cap:Nat}
 (hg:((w.alloc (.cells (madeCells #[.bool false] (T+1)) 4)).alloc o).drew.grownBy w1 gv.ownBlock)
 (hown:w1.ownsRow base 53 1 (.slice (some ⟨g,0,none⟩) (m+1) cap) (m+1) ((List.range m).map vg++[.slice (some ⟨w.heap.size,0,none⟩) (T+1) (T+1)])) (hat:gv.ownBlock=some g\/g=w.heap.size+2):
 ah (w1.setCell ⟨sb,2,none⟩ (.slice (some ⟨g,0,none⟩) (m+1) cap)) base
  (bB sb T N mf (m+1) nv fv (.slice (some ⟨g,0,none⟩) (m+1) cap) vf (fun n=>if n=m then .slice (some ⟨w.heap.size,0,none⟩) (T+1) (T+1) else vg n) Nu Fi (Fo++[List.replicate (T+1) false])):=by
 have h1:=((h.make (.g m) (T+1) hb hT).alloc o).drew
 have h2:=h1.turn (i:= .gh) (r:=⟨gv,53,1,m,(List.range m).map vg⟩) (r':=⟨.slice (some ⟨g,0,none⟩) (m+1) cap,53,1,m+1,(List.range m).map vg++[.slice (some ⟨w.heap.size,0,none⟩) (T+1) (T+1)]⟩)
  (by rw[ql _ (by simp)];rfl) hg hown (fun k hk=>by
   simp only[Value.ownBlock,Option.some.injEq]at hk;subst hk
   simpa using hat)
 have h3:=h2.store (i:= .st) (g:=sb) (n:=1) (cap:=1) (e:=56) (size:=3) (xs:=[nv,fv,gv]) (by rw[ql _ (by simp),ql _ (by simp)];rfl) 2 (.slice (some ⟨g,0,none⟩) (m+1) cap)
 have e:upd (upd (upd (bB sb T N mf m nv fv gv vf vg Nu Fi Fo) (.g m) ⟨.slice (some ⟨w.heap.size,0,none⟩) (T+1) (T+1),4,1,T+1,(List.replicate (T+1) false).map Value.bool⟩) .gh
  ⟨.slice (some ⟨g,0,none⟩) (m+1) cap,53,1,m+1,(List.range m).map vg++[.slice (some ⟨w.heap.size,0,none⟩) (T+1) (T+1)]⟩) .st ⟨.slice (some ⟨sb,0,none⟩) 1 1,56,3,1,[nv,fv,gv].set 2 (.slice (some ⟨g,0,none⟩) (m+1) cap)⟩=
  bB sb T N mf (m+1) nv fv (.slice (some ⟨g,0,none⟩) (m+1) cap) vf (fun n=>if n=m then .slice (some ⟨w.heap.size,0,none⟩) (T+1) (T+1) else vg n) Nu Fi (Fo++[List.replicate (T+1) false]):=by
  funext x
  cases x with
  |st=>simp[upd,bB]
  |null=>simp[upd,bB]
  |fh=>simp[upd,bB]
  |f n=>simp[upd,bB]
  |gh=>
   simp only[upd,bB];simp only[reduceCtorEq,if_false,if_true]
   congr 2
   rw[List.range_succ,List.map_append]
   congr 1
   ·refine List.map_congr_left fun a ha=> ?_
    have:=List.mem_range.1 ha;rw[if_neg (by omega)]
   ·simp
  |g n=>
   simp only[upd,bB,reduceCtorEq,if_false,Ix.g.injEq];by_cases hn:n=m
   ·subst hn
    simp[List.getD,hF]
   ·by_cases hlt:n<m
    ·rw[if_neg hn,if_pos hlt,if_pos (by omega),if_neg hn]
     simp[List.getD,List.getElem?_append_left (show n<Fo.length by omega)]
    ·rw[if_neg hn,if_neg hlt,if_neg (by omega)]
 rwa [e]at h3
end
theorem Tryz.infoBools:(Tryz.prog.info? 53).map (fun i=>(i.zero,i.size,i.bytes))=some (some (.slice none 0 0),1,24):=by kernel_rfl
def SR(W:World)(B sb T N mf mg:Nat)(Nu:List Bool)(Fi Fo:List (List Bool))(wr:World):Prop:=
 Below B W wr/\B<=wr.heap.size/\Fi.length=mf/\Fo.length=mg/\∃nv fv gv vf vg,ah wr B (bB sb T N mf mg nv fv gv vf vg Nu Fi Fo)
theorem Z5(w:World)(T N:Nat)(hN:N<=maxLen)(o1 o2:Obj):
 SR ((w.alloc o1).alloc o2) (w.heap.size+2) (w.heap.size+1+1+1) T N 0 0 (List.replicate N false) [] []
  ((((w.alloc o1).alloc o2).alloc (.cells (madeCells #[.bool false] N) 4)).alloc (.cells #[.slice (some ⟨w.heap.size+1+1,0,none⟩) N N,.slice none 0 0,.slice none 0 0] 56)):=by
 refine⟨((Below.refl _ _).alloc (by simp) _).alloc (by simp) _,by simp,rfl,rfl,.slice (some ⟨w.heap.size+1+1,0,none⟩) N N,.slice none 0 0,.slice none 0 0,fun _=> .nilIface,fun _=> .nilIface,?_⟩;have h0:ah ((w.alloc o1).alloc o2) (w.heap.size+2) (fun _:Ix=>none):=⟨fun i r h=>(by cases h),fun i j a b _ h=>(by cases h)⟩;have h1:=h0.make .null N (by simp) hN
 have h2:=h1.new .st (r:=⟨.slice (some ⟨w.heap.size+1+1+1,0,none⟩) 1 1,56,3,1,[.slice (some ⟨w.heap.size+1+1,0,none⟩) N N,.slice none 0 0,.slice none 0 0]⟩)
  (World.grownBy_alloc _ (.cells #[.slice (some ⟨w.heap.size+1+1,0,none⟩) N N,.slice none 0 0,.slice none 0 0] 56) none)
  (by
    have:=World.ownsRow_lit (base:=w.heap.size+2) (e:=56) (size:=3) (((w.alloc o1).alloc o2).alloc (.cells (madeCells #[.bool false] N) 4)) #[.slice (some ⟨w.heap.size+1+1,0,none⟩) N N,.slice none 0 0,.slice none 0 0] 1 (by simp) (by unfold maxLen;omega) rfl
    simpa using this)
  (fun g hg=>by simpa [Value.ownBlock] using hg.symm)
 refine⟨fun i r hi=> ?_,fun i j a b hij ha hb g h3 h4=> ?_⟩
 ·cases i with
  |st=>cases hi;exact h2.own .st _ (upd_same _ _ _)
  |null=>cases hi;have:=h2.own .null _ (by rw[ql _ (by simp)];exact upd_same _ _ _);simpa using this
  |fh=>cases hi;exact World.ownsRow_nil _ _ _ _
  |gh=>cases hi;exact World.ownsRow_nil _ _ _ _
  |f n=>simp[bB]at hi
  |g n=>simp[bB]at hi
 ·cases i with
  |f n=>simp[bB]at ha
  |g n=>simp[bB]at ha
  |fh=>cases ha;simp[Value.ownBlock]at h3
  |gh=>cases ha;simp[Value.ownBlock]at h3
  |st=>
   cases j with
   |f n=>simp[bB]at hb
   |g n=>simp[bB]at hb
   |fh=>cases hb;simp[Value.ownBlock]at h4
   |gh=>cases hb;simp[Value.ownBlock]at h4
   |st=>exact hij rfl
   |null=>cases ha;cases hb;simp only[Value.ownBlock,Option.some.injEq]at h3 h4;omega
  |null=>
   cases j with
   |f n=>simp[bB]at hb
   |g n=>simp[bB]at hb
   |fh=>cases hb;simp[Value.ownBlock]at h4
   |gh=>cases hb;simp[Value.ownBlock]at h4
   |null=>exact hij rfl
   |st=>cases ha;cases hb;simp only[Value.ownBlock,Option.some.injEq]at h3 h4;omega
theorem Q6{W wr w1:World}{B sb j:Nat}{o1 o2:Obj}{row:Option Nat}{v:Value}(hB:Below B W wr)(hle:B<=wr.heap.size)(hg:((wr.alloc o1).alloc o2).drew.grownBy w1 row)(hr:∀k,row=some k->B<=k)(hsb:B<=sb):
 Below B W (w1.setCell ⟨sb,j,none⟩ v)/\B<=(w1.setCell ⟨sb,j,none⟩ v).heap.size:=by
 have h1:Below B W ((wr.alloc o1).alloc o2).drew:=((hB.alloc hle o1).alloc (by simp;omega) o2).drew;have hs:=hg.size
 have h2:B<=((wr.alloc o1).alloc o2).drew.heap.size:=by
  have:((wr.alloc o1).alloc o2).drew.heap.size=wr.heap.size+1+1:=by
   show ((wr.alloc o1).alloc o2).heap.size=_;simp
  omega
 exact⟨(h1.grown hg h2 hr).setCell hsb v,by simp;omega⟩
def Gc(R:List Ru)(i:Nat)(Nu:List Bool):List Bool:=if wV Nu (R.getD i (0,[])).2 then Nu.set (R.getD i (0,[])).1.toNat true else Nu
def fI(R:List Ru)(N:Nat):List Bool:=aK (N+1) (fun _=>aK R.length (Gc R)) (List.replicate N false)
def Dl(R:List Ru)(Nu:List Bool)(i t:Nat)(Fi:List (List Bool)):List (List Bool):=if wW Nu Fi t (R.getD i (0,[])).2 then set2 Fi (R.getD i (0,[])).1.toNat t else Fi
def jW(R:List Ru)(Nu:List Bool)(T N:Nat):List (List Bool):=aK (N+1) (fun _=>aK R.length fun i=>aK T fun t=>Dl R Nu i t) (List.replicate N (List.replicate T false))
def KI(R:List Ru)(Nu:List Bool)(Fi:List (List Bool))(T i k t:Nat)(Fo:List (List Bool)):List (List Bool):=
 if (decide (t<T)&&wW Nu Fi t ((R.getD i (0,[])).2.drop (k+1)))||(wV Nu ((R.getD i (0,[])).2.drop (k+1))&&(Fo.getD (R.getD i (0,[])).1.toNat []).getD t false) then
  set2 Fo ((R.getD i (0,[])).2.getD k (false,0)).2.toNat t
 else Fo
def Dm(R:List Ru)(Nu:List Bool)(Fi:List (List Bool))(T i k:Nat)(Fo:List (List Bool)):List (List Bool):=
 if ((R.getD i (0,[])).2.getD k (false,0)).1 then Fo else aK (T+1) (fun t=>KI R Nu Fi T i k t) Fo
def Gf(R:List Ru)(Nu:List Bool)(Fi:List (List Bool))(T N:Nat):List (List Bool):=
 aK (N+1) (fun _=>aK R.length fun i=>aK (R.getD i (0,[])).2.length fun k=>Dm R Nu Fi T i k) (set2 (List.replicate N (List.replicate (T+1) false)) 0 T)
section
variable{w:World}{base sb T N mf mg:Nat}{nv fv gv:Value}{vf vg:Nat->Value}{Nu:List Bool}{Fi Fo:List (List Bool)}
theorem Z6{w:World}{base n:Nat}{v:Value}{X:List Bool}{e:TypeId}(h:w.ownsRow base e 1 v n (X.map Value.bool)):kL w v X:=by
 have hl:X.length=n:=by simpa using h.1
 obtain⟨a,c,hv⟩:=bK h;refine⟨⟨a,c,by rw[hv,hl]⟩,fun i hi=> ?_⟩;obtain⟨g,cap,rfl,_,_⟩:=h.form (by omega);refine⟨g,0,cap,by rw[hl],?_⟩;have:=h.cellAt i (by omega);rw[Nat.zero_add,this];simp[List.getD,hi]
end
end Go.Proofs.YtblkkhfdeaaidaaGreatDoor
namespace Go.Proofs.YtblkkhfdeaaidaaGreatDoor
def kN(X:List Bool)(n:Int):Prop:=0<=n/\X.getD n.toNat false=true
def dS(F:List (List Bool))(t:Nat)(n:Int):Prop:=0<=n/\(F.getD n.toNat []).getD t false=true
theorem Dn{X:List Bool}{l:Nat}(hl:l<X.length){n:Int}:kN (X.set l true) n↔n=(l:Int)\/kN X n:=by
 unfold kN;constructor
 ·rintro ⟨h0,h1⟩
  by_cases e:n.toNat=l
  ·exact .inl (by omega)
  ·right
   refine⟨h0,?_⟩;rw[<-h1];simp[List.getD,List.getElem?_set_ne (fun h=>e h.symm)]
 ·rintro (rfl|⟨h0,h1⟩)
  ·exact⟨by omega,by simp[List.getD,hl]⟩
  ·refine⟨h0,?_⟩
   by_cases e:n.toNat=l
   ·subst e;simp[List.getD,hl]
   ·rw[<-h1];simp[List.getD,List.getElem?_set_ne (fun h=>e h.symm)]
theorem vv{F:List (List Bool)}{l t:Nat}(hl:l<F.length)(ht:t<(F.getD l []).length){u:Nat}{n:Int}:dS (set2 F l t) u n↔(n=(l:Int)/\u=t)\/dS F u n:=by
 unfold dS;rw[Dk];by_cases e:n.toNat=l
 ·rw[if_pos ⟨e,hl⟩]
  by_cases eu:u=t
  ·subst eu
   constructor
   ·rintro ⟨h0,_⟩;exact .inl ⟨by omega,rfl⟩
   ·intro h
    have h0:0<=n:=by rcases h with⟨rfl,_⟩|⟨h,_⟩<;>omega
    exact⟨h0,by generalize F.getD l []=X at ht;simp[List.getD,ht]⟩
  ·have:((F.getD l []).set t true).getD u false=(F.getD l []).getD u false:=by generalize F.getD l []=X;simp[List.getD,List.getElem?_set_ne (fun h=>eu h.symm)]
   rw[this,e];constructor
   ·intro h;exact .inr h
   ·rintro (⟨_,h⟩|h)
    ·exact absurd h eu
    ·exact h
 ·rw[if_neg (fun h=>e h.1)]
  constructor
  ·intro h;exact .inr h
  ·rintro (⟨rfl,_⟩|h)
   ·exact absurd (by omega) e
   ·exact h
theorem Av{X:List Bool}{l:List Sy}(h:∀s∈l,s.1=false->0<=s.2):wV X l=true↔jS (kN X) l:=by
 unfold wV jS kN;rw[List.all_eq_true];constructor
 ·intro hh s hs
  have:=hh s hs;simp only[Bool.and_eq_true,Bool.not_eq_true']at this;exact⟨this.1,h s hs this.1,this.2⟩
 ·intro hh s hs
  obtain⟨h1,_,h2⟩:=hh s hs;rw[h1,h2];rfl
theorem Gg{X:List Bool}{F:List (List Bool)}{t:Nat}{l:List Sy}(h:∀s∈l,s.1=false->0<=s.2):wW X F t l=true↔jT (kN X) (dS F t) t l:=by
 unfold wW jT;rw[List.any_eq_true];constructor
 ·rintro ⟨i,hi,hh⟩
  have hil:i<l.length:=List.mem_range.1 hi;simp only[Bool.and_eq_true]at hh;have e:l.getD i (false,0)=l[i]:=by simp[List.getD,hil]
  rw[e]at hh;refine⟨i,l[i],by simp[hil],?_,(Av fun s hs=>h s (List.mem_of_mem_take hs)).1 hh.1⟩;have Dp:=hh.2;unfold Ky at Dp;cases hb:(l[i]).1 with
  |true=>rw[hb]at Dp;exact .inl ⟨rfl,by simpa using Dp⟩
  |false=>rw[hb]at Dp;exact .inr ⟨rfl,h _ (List.getElem_mem hil) hb,by simpa using Dp⟩
 ·rintro ⟨i,s,hs,hh,hn⟩
  have hil:i<l.length:=(List.getElem?_eq_some_iff.1 hs).1;have e:l.getD i (false,0)=s:=by simp[List.getD,hs]
  refine⟨i,List.mem_range.2 hil,?_⟩;rw[(Av fun s hs=>h s (List.mem_of_mem_take hs)).2 hn,e];unfold Ky;rcases hh with⟨h1,h2⟩|⟨h1,_,h2⟩
  ·simp[h1,h2]
  ·simp[h1];simpa [List.getD] using h2
section
variable{T N:Nat}{R:List Ru}(hf:bM T N R)
include hf
theorem xg{i:Nat}(hi:i<R.length):R.getD i (0,[])∈R:=by
 have _:=hf.some;simp[List.getD,hi]
theorem Dq{i:Nat}(hi:i<R.length):∀s∈(R.getD i (0,[])).2,s.1=false->0<=s.2:=fun s hs h=>(hf.name _ (xg hf hi) s hs h).1
theorem Q7:(fI R N).length=N/\∀n,kN (fI R N) n↔dM N R n:=by
 have hm:=O1 hf
 have main:=mR (n:=N+1) (f:=fun _=>aK R.length (Gc R)) (x:=List.replicate N false)
  (fun k X=>X.length=N/\(∀n,kN X n->dM N R n)/\∀n,Lv (yG R) k n->kN X n)
  ⟨by simp,fun n hn=>by
    unfold kN at hn;have:=hn.2;by_cases h:n.toNat<N
    ·simp[List.getD,h]at this
    ·simp[List.getD,List.getElem?_eq_none (show (List.replicate N false).length<=n.toNat by simp;omega)]at this,fun n hn=>hn.elim⟩
  (fun k _ X ⟨h1,h2,h3⟩=>by
    have inner:=mR (n:=R.length) (f:=Gc R) (x:=X)
     (fun i Y=>Y.length=N/\(∀n,kN Y n->dM N R n)/\(∀n,Lv (yG R) k n->kN Y n)/\∀j,j<i->jS (Lv (yG R) k) (R.getD j (0,[])).2->kN Y (R.getD j (0,[])).1)
     ⟨h1,h2,h3,fun j hj=>absurd hj (Nat.not_lt_zero _)⟩
     (fun i hi Y ⟨y1,y2,y3,y4⟩=>by
       have hL:=hf.left _ (xg hf hi);have hl:(R.getD i (0,[])).1.toNat<Y.length:=by omega
       have hcast:(((R.getD i (0,[])).1.toNat:Nat):Int)=(R.getD i (0,[])).1:=by omega
       unfold Gc;cases hb:wV Y (R.getD i (0,[])).2 with
       |true=>
        simp only[if_true];have hall:=(Av (Dq hf hi)).1 hb;refine⟨by simp[y1],fun n hn=> ?_,fun n hn=>(Dn hl).2 (.inr (y3 n hn)),fun j hj ha=> ?_⟩
        ·rcases(Dn hl).1 hn with rfl|hn
         ·rw[hcast]
          exact lu hm _ ⟨_,xg hf hi,rfl,hall.mono y2⟩
         ·exact y2 n hn
        ·rcases Nat.lt_succ_iff_lt_or_eq.1 hj with hj|rfl
         ·exact(Dn hl).2 (.inr (y4 j hj ha))
         ·exact(Dn hl).2 (.inl hcast.symm)
       |false=>
        simp only[Bool.false_eq_true,if_false];refine⟨y1,y2,y3,fun j hj ha=> ?_⟩;rcases Nat.lt_succ_iff_lt_or_eq.1 hj with hj|rfl
        ·exact y4 j hj ha
        ·rw[(Av (Dq hf hi)).2 (ha.mono y3)]at hb;cases hb)
    obtain⟨z1,z2,_,z4⟩:=inner;refine⟨z1,z2,fun n hn=> ?_⟩;obtain⟨r,hr,rfl,ha⟩:=hn;obtain⟨j,hj,rfl⟩:=List.getElem_of_mem hr;have e:R.getD j (0,[])=R[j]:=by simp[List.getD,hj]
    have:=z4 j hj (by rw[e];exact ha)
    rwa [e]at this)
 obtain⟨m1,m2,m3⟩:=main;exact⟨m1,fun n=>⟨m2 n,fun hn=>m3 n (Cq hm N n hn)⟩⟩
def Shape(N w:Nat)(F:List (List Bool)):Prop:=F.length=N/\∀n,n<N->(F.getD n []).length=w
omit hf in
theorem Shape.set2{N w:Nat}{F:List (List Bool)}(h:Shape N w F)(l t:Nat):Shape N w (set2 F l t):=by
 refine⟨by rw[ZX];exact h.1,fun n hn=> ?_⟩;rw[Dk];split
 ·rename_i e
  rw[List.length_set,<-e.1];exact h.2 n hn
 ·exact h.2 n hn
omit hf in
theorem Shape.replicate(N w:Nat):Shape N w (List.replicate N (List.replicate w false)):=by
 refine⟨by simp,fun n hn=> ?_⟩;simp[List.getD,hn]
omit hf in
theorem Q8{N w t:Nat}{n:Int}:¬dS (List.replicate N (List.replicate w false)) t n:=by
 rintro ⟨_,h⟩;by_cases h1:n.toNat<N
 ·by_cases h2:t<w
  ·simp[List.getD,h1,h2]at h
  ·simp[List.getD,h1,h2]at h
 ·simp[List.getD,h1]at h
theorem Q9{Nu:List Bool}(KJ:∀n,kN Nu n↔dM N R n):Shape N T (jW R Nu T N)/\∀t,t<T->∀n,dS (jW R Nu T N) t n↔gW N R t n:=by
 have hNe:kN Nu=dM N R:=funext fun n=>propext (KJ n);have hm:=fun t:Int=>JQ hf (dM N R) t
 have main:=mR (n:=N+1) (f:=fun _=>aK R.length fun i=>aK T fun t=>Dl R Nu i t) (x:=List.replicate N (List.replicate T false))
  (fun k X=>Shape N T X/\(∀t,t<T->∀n,dS X t n->gW N R t n)/\∀t,t<T->∀n,Lv (wJ R (dM N R) t) k n->dS X t n)
  ⟨Shape.replicate N T,fun t _ n hn=>absurd hn Q8,fun t _ n hn=>hn.elim⟩
  (fun k _ X ⟨h1,h2,h3⟩=>by
    have inner:=mR (n:=R.length) (f:=fun i=>aK T fun t=>Dl R Nu i t) (x:=X)
     (fun i Y=>Shape N T Y/\(∀t,t<T->∀n,dS Y t n->gW N R t n)/\(∀t,t<T->∀n,Lv (wJ R (dM N R) t) k n->dS Y t n)/\
       ∀j,j<i->∀t,t<T->jT (dM N R) (Lv (wJ R (dM N R) t) k) t (R.getD j (0,[])).2->dS Y t (R.getD j (0,[])).1)
     ⟨h1,h2,h3,fun j hj=>absurd hj (Nat.not_lt_zero _)⟩
     (fun i hi Y ⟨y1,y2,y3,y4⟩=>by
       have hL:=hf.left _ (xg hf hi);have hcast:(((R.getD i (0,[])).1.toNat:Nat):Int)=(R.getD i (0,[])).1:=by omega
       have deep:=mR (n:=T) (f:=fun t=>Dl R Nu i t) (x:=Y)
        (fun u Z=>Shape N T Z/\(∀t,t<T->∀n,dS Z t n->gW N R t n)/\(∀t n,dS Y t n->dS Z t n)/\
          ∀t,t<u->t<T->jT (dM N R) (Lv (wJ R (dM N R) t) k) t (R.getD i (0,[])).2->dS Z t (R.getD i (0,[])).1)
        ⟨y1,y2,fun _ _ h=>h,fun t ht=>absurd ht (Nat.not_lt_zero _)⟩
        (fun u hu Z ⟨z1,z2,z3,z4⟩=>by
          have hl:(R.getD i (0,[])).1.toNat<Z.length:=by rw[z1.1];omega
          have hw:u<(Z.getD (R.getD i (0,[])).1.toNat []).length:=by rw[z1.2 _ (by omega)];exact hu
          unfold Dl;cases hb:wW Nu Z u (R.getD i (0,[])).2 with
          |true=>
           simp only[if_true];have vw:=(Gg (Dq hf hi)).1 hb;rw[hNe]at vw;refine⟨z1.set2 _ _,fun t ht n hn=> ?_,fun t n hn=>(vv hl hw).2 (.inr (z3 t n hn)),fun t ht o6 ha=> ?_⟩
           ·rcases(vv hl hw).1 hn with⟨rfl,rfl⟩|hn
            ·rw[hcast]
             exact lu (hm t) _ ⟨_,xg hf hi,rfl,vw.mono (z2 t ht)⟩
            ·exact z2 t ht n hn
           ·rcases Nat.lt_succ_iff_lt_or_eq.1 ht with ht|rfl
            ·exact(vv hl hw).2 (.inr (z4 t ht o6 ha))
            ·exact(vv hl hw).2 (.inl ⟨hcast.symm,rfl⟩)
          |false=>
           simp only[Bool.false_eq_true,if_false];refine⟨z1,z2,z3,fun t ht o6 ha=> ?_⟩;rcases Nat.lt_succ_iff_lt_or_eq.1 ht with ht|rfl
           ·exact z4 t ht o6 ha
           ·have:wW Nu Z t (R.getD i (0,[])).2=true:=(Gg (Dq hf hi)).2 (by rw[hNe];exact ha.mono fun n hn=>z3 t n (y3 t o6 n hn))
            rw[this]at hb;cases hb)
       obtain⟨d1,d2,d3,d4⟩:=deep;refine⟨d1,d2,fun t ht n hn=>d3 t n (y3 t ht n hn),fun j hj t ht ha=> ?_⟩;rcases Nat.lt_succ_iff_lt_or_eq.1 hj with hj|rfl
       ·exact d3 t _ (y4 j hj t ht ha)
       ·exact d4 t ht ht ha)
    obtain⟨z1,z2,_,z4⟩:=inner;refine⟨z1,z2,fun t ht n hn=> ?_⟩;obtain⟨r,hr,rfl,ha⟩:=hn;obtain⟨j,hj,rfl⟩:=List.getElem_of_mem hr;have e:R.getD j (0,[])=R[j]:=by simp[List.getD,hj]
    have:=z4 j hj t ht (by rw[e];exact ha)
    rwa [e]at this)
 obtain⟨m1,m2,m3⟩:=main;exact⟨m1,fun t ht n=>⟨m2 t ht n,fun hn=>m3 t ht n (Cq (hm t) N n hn)⟩⟩
theorem Z7{Nu:List Bool}{Fi:List (List Bool)}(KJ:∀n,kN Nu n↔dM N R n)(Aw:∀t,t<T->∀n,dS Fi t n↔gW N R t n):
 Shape N (T+1) (Gf R Nu Fi T N)/\∀t,t<T+1->∀n,dS (Gf R Nu Fi T N) t n↔nK T N R t n:=by
 have hNe:kN Nu=dM N R:=funext fun n=>propext (KJ n);have Ra:∀t,t<T->dS Fi t=gW N R t:=fun t ht=>funext fun n=>propext (Aw t ht n);have hm:=fun t:Int=>Cs hf (dM N R) (gW N R) t;have Z8:=hf.some;have s0:Shape N (T+1) (set2 (List.replicate N (List.replicate (T+1) false)) 0 T):=(Shape.replicate N (T+1)).set2 0 T
 have h00:∀{u:Nat} {n:Int},dS (set2 (List.replicate N (List.replicate (T+1) false)) 0 T) u n↔n=0/\u=T:=by
  intro u n;rw[vv (by simp;omega) (by rw[(Shape.replicate N (T+1)).2 0 (by omega)];omega)];constructor
  ·rintro (⟨h1,h2⟩|h)
   ·exact⟨by simpa using h1,h2⟩
   ·exact absurd h Q8
  ·rintro ⟨h1,h2⟩;exact .inl ⟨by simpa using h1,h2⟩
 have main:=mR (n:=N+1) (f:=fun _=>aK R.length fun i=>aK (R.getD i (0,[])).2.length fun k=>Dm R Nu Fi T i k) (x:=set2 (List.replicate N (List.replicate (T+1) false)) 0 T)
  (fun m X=>Shape N (T+1) X/\(∀t,t<T+1->∀n,dS X t n->nK T N R t n)/\(∀t,t<T+1->∀n,Lv (uO R (dM N R) (gW N R) T t) m n->dS X t n)/\dS X T 0)
  ⟨s0,fun t _ n hn=>by
    obtain⟨rfl,rfl⟩:=h00.1 hn
    exact lu (hm t) 0 (.inl ⟨rfl,rfl⟩),fun t _ n hn=>hn.elim,h00.2 ⟨rfl,rfl⟩⟩
  (fun m _ X ⟨h1,h2,h3,h4⟩=>by
    have inner:=mR (n:=R.length) (f:=fun i=>aK (R.getD i (0,[])).2.length fun k=>Dm R Nu Fi T i k) (x:=X)
     (fun i Y=>Shape N (T+1) Y/\(∀t,t<T+1->∀n,dS Y t n->nK T N R t n)/\(∀t n,dS X t n->dS Y t n)/\
       ∀j,j<i->∀k n,(R.getD j (0,[])).2[k]?=some (false,n)->∀t,t<T+1->
        (((t:Int)<T/\jT (dM N R) (gW N R t) t ((R.getD j (0,[])).2.drop (k+1)))\/(jS (dM N R) ((R.getD j (0,[])).2.drop (k+1))/\Lv (uO R (dM N R) (gW N R) T t) m (R.getD j (0,[])).1))->dS Y t n)
     ⟨h1,h2,fun _ _ h=>h,fun j hj=>absurd hj (Nat.not_lt_zero _)⟩
     (fun i hi Y ⟨y1,y2,y3,y4⟩=>by
       have hL:=hf.left _ (xg hf hi);have hcL:(((R.getD i (0,[])).1.toNat:Nat):Int)=(R.getD i (0,[])).1:=by omega
       have mid:=mR (n:=(R.getD i (0,[])).2.length) (f:=fun k=>Dm R Nu Fi T i k) (x:=Y)
        (fun q Z=>Shape N (T+1) Z/\(∀t,t<T+1->∀n,dS Z t n->nK T N R t n)/\(∀t n,dS Y t n->dS Z t n)/\
          ∀k,k<q->∀n,(R.getD i (0,[])).2[k]?=some (false,n)->∀t,t<T+1->
           (((t:Int)<T/\jT (dM N R) (gW N R t) t ((R.getD i (0,[])).2.drop (k+1)))\/(jS (dM N R) ((R.getD i (0,[])).2.drop (k+1))/\Lv (uO R (dM N R) (gW N R) T t) m (R.getD i (0,[])).1))->dS Z t n)
        ⟨y1,y2,fun _ _ h=>h,fun k hk=>absurd hk (Nat.not_lt_zero _)⟩
        (fun q hq Z ⟨z1,z2,z3,z4⟩=>by
          obtain⟨⟨tb,v⟩,hs⟩:∃s,(R.getD i (0,[])).2[q]?=some s:=⟨(R.getD i (0,[])).2[q],by simp⟩;have hgs:(R.getD i (0,[])).2.getD q (false,0)=(tb,v):=by generalize (R.getD i (0,[])).2=l at*;simp[List.getD,hs]
          unfold Dm;rw[hgs];cases tb with
          |true=>
           simp only[if_true];refine⟨z1,z2,z3,fun k hk n hn=> ?_⟩;rcases Nat.lt_succ_iff_lt_or_eq.1 hk with hk|rfl
           ·exact z4 k hk n hn
           ·rw[hs]at hn;cases hn
          |false=>
           simp only[Bool.false_eq_true,if_false];have hmem:(false,v)∈(R.getD i (0,[])).2:=List.mem_of_getElem? hs;have hv:=hf.name _ (xg hf hi) _ hmem rfl;simp only at hv;have hcv:((v.toNat:Nat):Int)=v:=by omega
           have hpos:∀s∈(R.getD i (0,[])).2.drop (q+1),s.1=false->0<=s.2:=fun s hs'=>Dq hf hi s (List.mem_of_mem_drop hs')
           have deep:=mR (n:=T+1) (f:=fun t=>KI R Nu Fi T i q t) (x:=Z)
            (fun u V=>Shape N (T+1) V/\(∀t,t<T+1->∀n,dS V t n->nK T N R t n)/\(∀t n,dS Z t n->dS V t n)/\
              ∀t,t<u->t<T+1->(((t:Int)<T/\jT (dM N R) (gW N R t) t ((R.getD i (0,[])).2.drop (q+1)))\/(jS (dM N R) ((R.getD i (0,[])).2.drop (q+1))/\Lv (uO R (dM N R) (gW N R) T t) m (R.getD i (0,[])).1))->dS V t v)
            ⟨z1,z2,fun _ _ h=>h,fun t ht=>absurd ht (Nat.not_lt_zero _)⟩
            (fun u hu V ⟨v1,v2,v3,v4⟩=>by
              have hl:v.toNat<V.length:=by rw[v1.1];omega
              have hw:u<(V.getD v.toNat []).length:=by rw[v1.2 _ (by omega)];exact hu
              unfold KI;rw[hgs];cases hb:((decide (u<T)&&wW Nu Fi u ((R.getD i (0,[])).2.drop (q+1)))||(wV Nu ((R.getD i (0,[])).2.drop (q+1))&&(V.getD (R.getD i (0,[])).1.toNat []).getD u false)) with
              |true=>
               simp only[if_true]
               have Z9:uO R (dM N R) (gW N R) T u (nK T N R u) v:=by
                refine .inr ⟨_,xg hf hi,q,hs,?_⟩;simp only[Bool.or_eq_true,Bool.and_eq_true,decide_eq_true_eq]at hb;rcases hb with⟨b1,b2⟩|⟨b1,b2⟩
                ·have:=(Gg hpos).1 b2
                 rw[hNe,Ra u b1]at this;exact .inl ⟨by omega,this⟩
                ·have:=(Av hpos).1 b1
                 rw[hNe]at this;exact .inr ⟨this,v2 u hu _ ⟨hL.1,b2⟩⟩
               refine⟨v1.set2 _ _,fun t ht n hn=> ?_,fun t n hn=>(vv hl hw).2 (.inr (v3 t n hn)),fun t ht o6 ha=> ?_⟩
               ·rcases(vv hl hw).1 hn with⟨rfl,rfl⟩|hn
                ·rw[hcv]
                 exact lu (hm t) _ Z9
                ·exact v2 t ht n hn
               ·rcases Nat.lt_succ_iff_lt_or_eq.1 ht with ht|rfl
                ·exact(vv hl hw).2 (.inr (v4 t ht o6 ha))
                ·exact(vv hl hw).2 (.inl ⟨hcv.symm,rfl⟩)
              |false=>
               simp only[Bool.false_eq_true,if_false];refine⟨v1,v2,v3,fun t ht o6 ha=> ?_⟩;rcases Nat.lt_succ_iff_lt_or_eq.1 ht with ht|rfl
               ·exact v4 t ht o6 ha
               ·exfalso
                simp only[Bool.or_eq_false_iff]at hb;rcases ha with⟨a1,a2⟩|⟨a1,a2⟩
                ·have ht':t<T:=by omega
                 have:wW Nu Fi t ((R.getD i (0,[])).2.drop (q+1))=true:=(Gg hpos).2 (by rw[hNe,Ra t ht'];exact a2);rw[this]at hb;simp[ht']at hb
                ·have hn1:wV Nu ((R.getD i (0,[])).2.drop (q+1))=true:=(Av hpos).2 (by rw[hNe];exact a1)
                 have hn2:=(v3 t _ (z3 t _ (y3 t _ (h3 t o6 _ a2)))).2;rw[hn1,hn2]at hb
                 simp at hb)
           obtain⟨d1,d2,d3,d4⟩:=deep;refine⟨d1,d2,fun t n hn=>d3 t n (z3 t n hn),fun k hk n hn t ht ha=> ?_⟩;rcases Nat.lt_succ_iff_lt_or_eq.1 hk with hk|rfl
           ·exact d3 t n (z4 k hk n hn t ht ha)
           ·rw[hs]at hn
            cases hn
            exact d4 t ht ht ha)
       obtain⟨z1,z2,z3,z4⟩:=mid;refine⟨z1,z2,fun t n hn=>z3 t n (y3 t n hn),fun j hj k n hn t ht ha=> ?_⟩;rcases Nat.lt_succ_iff_lt_or_eq.1 hj with hj|rfl
       ·exact z3 t n (y4 j hj k n hn t ht ha)
       ·exact z4 k (List.getElem?_eq_some_iff.1 hn).1 n hn t ht ha)
    obtain⟨z1,z2,z3,z4⟩:=inner;refine⟨z1,z2,fun t ht n hn=> ?_,z3 _ _ h4⟩;rcases hn with⟨rfl,hT⟩|⟨r,hr,k,hk,ha⟩
    ·obtain rfl:t=T:=by omega
     exact z3 _ _ h4
    ·obtain⟨j,hj,rfl⟩:=List.getElem_of_mem hr
     have e:R.getD j (0,[])=R[j]:=by simp[List.getD,hj]
     exact z4 j hj k n (by rw[e];exact hk) t ht (by rw[e];exact ha))
 obtain⟨m1,m2,m3,_⟩:=main;exact⟨m1,fun t ht n=>⟨m2 t ht n,fun hn=>m3 t ht n (Cq (hm t) N n hn)⟩⟩
end
end Go.Proofs.YtblkkhfdeaaidaaGreatDoor
namespace Go.Proofs.YtblkkhfdeaaidaaGreatDoor
open Go.RowKit
abbrev Ce:=Int×List Int×Bool
def Dr(w:World)(v:Value)(X:List Ce):Prop:=
 (∃a c,v= .slice a X.length c)/\∀k,k<X.length->∃b o c rl,v= .slice (some ⟨b,o,none⟩) X.length c/\w.cell? ⟨b,o+k*3,none⟩=some (.int .i64 (X.getD k (0,[],false)).1)/\
  w.cell? ⟨b,o+k*3+1,none⟩=some rl/\aP w w.heap.size rl (X.getD k (0,[],false)).2.1/\w.cell? ⟨b,o+k*3+2,none⟩=some (.bool (X.getD k (0,[],false)).2.2)
def Dt(w:World)(v:Value)(X:List (List Ce)):Prop:=
 (∃a c,v= .slice a X.length c)/\∀i,i<X.length->∃b o c rv,v= .slice (some ⟨b,o,none⟩) X.length c/\w.cell? ⟨b,o+i,none⟩=some rv/\Dr w rv (X.getD i [])
def Gh(w:World)(v:Value)(X:List (List Int)):Prop:=
 (∃a c,v= .slice a X.length c)/\∀i,i<X.length->∃b o c rv,v= .slice (some ⟨b,o,none⟩) X.length c/\w.cell? ⟨b,o+i,none⟩=some rv/\aP w w.heap.size rv (X.getD i [])
structure TabAt(w:World)(cv gv:Value)(C:List (List Ce))(G:List (List Int)):Prop where
 cells:Dt w cv C
 goto:Gh w gv G
section
variable{w w':World}
theorem Dr.below{v:Value}{X:List Ce}(h:Dr w v X)(hb:Below w.heap.size w w'):Dr w' v X:=
 ⟨h.1,fun k hk=>let ⟨b,o,c,rl,h1,h2,h3,h4,h5⟩:=h.2 k hk;⟨b,o,c,rl,h1,(hb.cell (World.block_lt_of_cell? _ _ h2)).trans h2,(hb.cell (World.block_lt_of_cell? _ _ h3)).trans h3,(h4.below hb).mono hb.size,(hb.cell (World.block_lt_of_cell? _ _ h5)).trans h5⟩⟩
theorem Dt.below{v:Value}{X:List (List Ce)}(h:Dt w v X)(hb:Below w.heap.size w w'):Dt w' v X:=
 ⟨h.1,fun k hk=>let ⟨b,o,c,rv,h1,h2,h3⟩:=h.2 k hk;⟨b,o,c,rv,h1,(hb.cell (World.block_lt_of_cell? _ _ h2)).trans h2,h3.below hb⟩⟩
theorem Gh.below{v:Value}{X:List (List Int)}(h:Gh w v X)(hb:Below w.heap.size w w'):Gh w' v X:=
 ⟨h.1,fun k hk=>let ⟨b,o,c,rv,h1,h2,h3⟩:=h.2 k hk;⟨b,o,c,rv,h1,(hb.cell (World.block_lt_of_cell? _ _ h2)).trans h2,(h3.below hb).mono hb.size⟩⟩
theorem TabAt.below{cv gv:Value}{C:List (List Ce)}{G:List (List Int)}(h:TabAt w cv gv C G)(hb:Below w.heap.size w w'):TabAt w' cv gv C G:=⟨h.cells.below hb,h.goto.below hb⟩
end
def xh(c:Ce):Bool:=(decide (c.2.1.length=0)&& !c.2.2)||(decide (c.1<0)&&(decide (c.2.1.length=0)||(decide (c.2.1.length=1)&& !c.2.2)))
def mI(X:List Ce):Nat:=(X.filter fun c=> !xh c).length
def fw(C:List (List Ce)):Nat:=(C.map mI).sum
theorem aac{X:List Ce}{k:Nat}(hk:k<X.length):mI (X.take (k+1))=mI (X.take k)+(if xh (X.getD k (0,[],false)) then 0 else 1):=by
 have e:X.getD k (0,[],false)=X[k]:=by simp[List.getD,hk]
 unfold mI;rw[List.take_succ_eq_append_getElem hk,List.filter_append,List.length_append,e];cases h:xh X[k]<;>simp[h]
theorem Rb{C:List (List Ce)}{i:Nat}(hi:i<C.length):fw (C.take (i+1))=fw (C.take i)+mI (C.getD i []):=by
 have e:C.getD i []=C[i]:=by simp[List.getD,hi]
 unfold fw;rw[List.take_succ_eq_append_getElem hi,List.map_append,List.sum_append,e];simp
theorem Rc(X:List Ce):mI X<=X.length:=List.length_filter_le _ _
theorem Rf{C:List (List Ce)}{m:Nat}(h:∀i,i<C.length->(C.getD i []).length<=m):fw C<=C.length*m:=by
 have:∀n,n<=C.length->fw (C.take n)<=n*m:=by
  intro n
  induction n with
  |zero=>simp[fw]
  |succ n ih=>
   intro hn;rw[Rb (by omega),Nat.add_mul];have:=ih (by omega);have:=Rc (C.getD n []);have:=h n (by omega);omega
 have h1:=this C.length (Nat.le_refl _)
 rwa [List.take_length]at h1
end Go.Proofs.YtblkkhfdeaaidaaGreatDoor
namespace Go.Proofs.YtblkkhfdeaaidaaGreatDoor
section
open Classical
def xk(T N:Nat)(R:List Ru)(NL:List (List Int))(Ls:List aI)(k t n:Nat):Prop:=Ls.getD k bC (n,(aH R n).length)/\Ga T R (fI R N) (jW R (fI R N) T N) NL Ls k (n,(aH R n).length) t
noncomputable def cellP(T N:Nat)(R:List Ru)(NL:List (List Int))(Ls:List aI)(k t:Nat):Ce:=
 (if t<T then (NL.getD k []).getD t 0 else -1,((List.range R.length).filter fun n=>decide (xk T N R NL Ls k t n)).map fun n=>((n:Nat):Int),decide (xk T N R NL Ls k t R.length))
noncomputable def rowP(T N:Nat)(R:List Ru)(NL:List (List Int))(Ls:List aI)(k:Nat):List Ce:=(List.range (T+1)).map (cellP T N R NL Ls k)
noncomputable def bZ(T N:Nat)(R:List Ru)(K:Nat):List (List Ce):=(List.range K).map (rowP T N R (af T N R K).1 (af T N R K).2)
noncomputable def iP(T N:Nat)(R:List Ru)(K:Nat):List (List Int):=(List.range K).map fun k=>((af T N R K).1.getD k []).drop T
end
end Go.Proofs.YtblkkhfdeaaidaaGreatDoor

package tests

import (
	"math"
	"slices"
	"testing"

	"loop.example/g00567/impl"
)

func TestReplicaExample(t *testing.T) {
	r, sent, ok := impl.RepNew(4, 1, 6)
	if !ok || len(sent) != 0 {
		t.Fatal(r, sent, ok)
	}
	p := play(t, r)
	p.hears(0, proposing(0, 5), "vote 0 5")
	p.hears(2, voting(0, 5), "")
	p.hears(0, voting(0, 5), "ready 0 5")
	wantRep(t, p.r, impl.Rep{
		N: 4, Id: 1, Own: 6, Left: 3,
		Voted:   votes(0, 5),
		Lock:    lockOn(0, 5),
		Props:   tally(0, 0, 5),
		Votes:   tally(0, 0, 5, 1, 0, 5, 2, 0, 5),
		Readies: tally(1, 0, 5),
	})
	if got := string(impl.RepText(p.r)); got != "replica 1 view 0 bound 0:5\n" {
		t.Errorf("%q", got)
	}
}

func TestLeader(t *testing.T) {
	for n, want := range map[int][]int{4: {0, 1, 2, 3, 0, 1, 2, 3, 0, 1}, 7: {0, 1, 2, 3, 4, 5, 6, 0, 1, 2}} {
		for view, leader := range want {
			if got := impl.Leader(n, view); got != leader {
				t.Error(n, view, got)
			}
		}
		for _, view := range []int{math.MinInt, -4, -1, 10, 11, 256, math.MaxInt} {
			if got := impl.Leader(n, view); got != -1 {
				t.Error(n, view, got)
			}
		}
	}
	for _, n := range otherSizes {
		for view := -1; view <= 10; view++ {
			if got := impl.Leader(n, view); got != -1 {
				t.Error(n, view, got)
			}
		}
	}
}

// validReps are replicas at the edges of what is valid, by what they show.
func validReps() map[string]impl.Rep {
	all := map[string]impl.Rep{"busy": busy(), "heard nothing of some views": changed(busy(), func(r *impl.Rep) { r.Heard = []impl.Heard{heard(1), heard(9)} })}
	for name, base := range map[string]impl.Rep{"4": idle(4, 3, 0), "7": idle(7, 6, 0), "4 at last": idle(4, 0, 9), "7 at last": idle(7, 0, 9)} {
		last := base.N - 1
		for what, change := range map[string]func(*impl.Rep){
			"as it is":            func(r *impl.Rep) {},
			"first":               func(r *impl.Rep) { r.Id = 0 },
			"last":                func(r *impl.Rep) { r.Id = last },
			"own 1":               func(r *impl.Rep) { r.Own = 1 },
			"own 60":              func(r *impl.Rep) { r.Own = 60 },
			"left 1":              func(r *impl.Rep) { r.Left = 1 },
			"left 3 + View":       func(r *impl.Rep) { r.Left = 3 + r.View },
			"voted in view":       func(r *impl.Rep) { r.Voted = votes(r.View, 60) },
			"voted in view 0":     func(r *impl.Rep) { r.Voted = votes(0, 1) },
			"lock in view":        func(r *impl.Rep) { r.Lock = lockOn(r.View, 60) },
			"lock in view 0":      func(r *impl.Rep) { r.Lock = lockOn(0, 1) },
			"done 1":              func(r *impl.Rep) { r.Done = 1 },
			"done 60":             func(r *impl.Rep) { r.Done = 60 },
			"props of anybody":    func(r *impl.Rep) { r.Props = tally(0, 0, 1, last, 0, 60, last, 9, 60) },
			"votes of anybody":    func(r *impl.Rep) { r.Votes = tally(0, 0, 1, last, 0, 60, last, 9, 60) },
			"readies of anybody":  func(r *impl.Rep) { r.Readies = tally(0, 0, 1, last, 0, 60, last, 9, 60) },
			"dones of anybody":    func(r *impl.Rep) { r.Dones = tally(0, 0, 1, last, 0, 60) },
			"heard of view 1":     func(r *impl.Rep) { r.Heard = []impl.Heard{heard(1, reported(last, lockOn(0, 60), 0, 1))} },
			"heard of view 9":     func(r *impl.Rep) { r.Heard = []impl.Heard{heard(9, reported(last, lockOn(8, 60), 8, 1))} },
			"heard of nobody":     func(r *impl.Rep) { r.Heard = []impl.Heard{heard(1), heard(2), heard(9)} },
			"empty, not nil":      func(r *impl.Rep) { r.Voted, r.Heard = []impl.Vote{}, []impl.Heard{} },
			"heard of every view": func(r *impl.Rep) { r.Heard = everyView(last) },
		} {
			all[name+" "+what] = changed(base, change)
		}
	}
	return all
}

func everyView(from int) []impl.Heard {
	var l []impl.Heard
	for view := 1; view <= 9; view++ {
		l = append(l, heard(view, reported(from, noLock)))
	}
	return l
}

func TestRepOk(t *testing.T) {
	for name, r := range validReps() {
		if !impl.RepOk(r) {
			t.Error(name, r)
		}
	}
	for name, r := range invalidReps() {
		if impl.RepOk(r) {
			t.Error(name, r)
		}
	}
}

func TestRepOkAtTheEdges(t *testing.T) {
	for _, n := range []int{4, 7} {
		for view := -1; view <= 10; view++ {
			isView := 0 <= view && view <= 9
			for left := -1; left <= 5+view; left++ {
				r := idle(n, 0, view)
				r.Left = left
				if got := impl.RepOk(r); got != (isView && 1 <= left && left <= 3+view) {
					t.Error(n, view, left, got)
				}
			}
			for _, own := range someVals {
				r := idle(n, 0, view)
				r.Own = own
				if got := impl.RepOk(r); got != (isView && 1 <= own && own <= 60) {
					t.Error(n, view, "own", own, got)
				}
				r = idle(n, 0, view)
				r.Done = own
				if got := impl.RepOk(r); got != (isView && 0 <= own && own <= 60) {
					t.Error(n, view, "done", own, got)
				}
			}
			for at := -1; at <= 10; at++ {
				r := idle(n, n-1, view)
				r.Lock = lockOn(at, 7)
				if got := impl.RepOk(r); got != (isView && 0 <= at && at <= view) {
					t.Error(n, view, "lock at", at, got)
				}
				r = idle(n, n-1, view)
				r.Voted = votes(at, 7)
				if got := impl.RepOk(r); got != (isView && 0 <= at && at <= view) {
					t.Error(n, view, "voted at", at, got)
				}
			}
		}
		for id := -2; id <= n+1; id++ {
			if got := impl.RepOk(idle(n, id, 2)); got != (0 <= id && id < n) {
				t.Error(n, id, got)
			}
		}
	}
}

func TestRepNew(t *testing.T) {
	for _, n := range []int{4, 7} {
		for _, own := range []int{1, 2, 30, 60} {
			for id := range n {
				r, sent, ok := impl.RepNew(n, id, own)
				want := impl.Rep{N: n, Id: id, Own: own, Left: 3}
				var wantSent []impl.Msg
				if id == 0 {
					want.Voted = votes(0, own)
					want.Props = tally(0, 0, own)
					want.Votes = tally(0, 0, own)
					wantSent = []impl.Msg{proposing(0, own), voting(0, own)}
				}
				if !ok || !sameRep(r, want) || !sameMsgs(sent, wantSent) || !impl.RepOk(r) {
					t.Error(n, id, own, r, sent, ok)
				}
			}
		}
	}
}

func TestRepNewRefuses(t *testing.T) {
	type args struct{ n, id, own int }
	var l []args
	for _, n := range otherSizes {
		l = append(l, args{n, 0, 9}, args{n, 1, 9}, args{n, -1, 0})
	}
	for _, n := range []int{4, 7} {
		for _, id := range []int{math.MinInt, -1, n, n + 1, 256, math.MaxInt} {
			l = append(l, args{n, id, 9})
		}
		for _, own := range []int{math.MinInt, -1, 0, 61, 256 + 9, math.MaxInt} {
			l = append(l, args{n, 0, own}, args{n, n - 1, own})
		}
	}
	for _, a := range l {
		if r, sent, ok := impl.RepNew(a.n, a.id, a.own); ok || !zeroRep(r) || len(sent) != 0 {
			t.Error(a, r, sent, ok)
		}
	}
}

// Nothing is possible for an idle replica in view 5 of 7 that hears one message, so that only the record shows.
func TestMessagesAreRecorded(t *testing.T) {
	for view := 0; view <= 9; view++ {
		for _, from := range []int{0, 1, 2, 4, 5, 6} {
			base := idle(7, 3, 5)
			p := play(t, base)
			p.hears(from, voting(view, 8), "")
			wantRep(t, p.r, changed(base, func(r *impl.Rep) { r.Votes = tally(from, view, 8) }))

			p = play(t, base)
			p.hears(from, readying(view, 8), "")
			wantRep(t, p.r, changed(base, func(r *impl.Rep) { r.Readies = tally(from, view, 8) }))

			p = play(t, base)
			p.hears(from, proposing(view, 8), "")
			wantRep(t, p.r, changed(base, func(r *impl.Rep) {
				if from == view%7 {
					r.Props = tally(from, view, 8)
				}
			}))

			p = play(t, base)
			p.hears(from, deciding(8), "")
			wantRep(t, p.r, changed(base, func(r *impl.Rep) { r.Dones = tally(from, 0, 8) }))

			if view > 0 {
				p = play(t, base)
				p.hears(from, report(view, lockOn(view-1, 60), votes(view-1, 1)...), "")
				wantRep(t, p.r, changed(base, func(r *impl.Rep) {
					r.Heard = []impl.Heard{heard(view, reported(from, lockOn(view-1, 60), view-1, 1))}
				}))
			}
		}
	}
}

func TestRecordsAreInserted(t *testing.T) {
	p := play(t, busy())
	p.hears(2, voting(2, 1), "") // the ballot of 2 in view 2 remains
	wantRep(t, p.r, busy())
	p.hears(2, voting(1, 4), "")
	p.hears(0, voting(3, 3), "")
	p.hears(0, readying(2, 3), "")
	p.hears(0, deciding(60), "")
	p.hears(2, report(5, noLock, votes(1, 2)...), "report 5 bound 2:7 0:5 2:7") // 2 and 3 are in view 5 or beyond
	want := busy()
	want.View, want.Left = 5, 8
	want.Votes = tally(0, 0, 5, 1, 0, 5, 2, 1, 4, 0, 2, 7, 1, 2, 7, 2, 2, 7, 0, 3, 3, 3, 3, 6, 3, 9, 60)
	want.Readies = tally(0, 2, 3, 1, 2, 7, 3, 2, 7, 3, 8, 1)
	want.Dones = tally(0, 0, 60, 3, 0, 7)
	want.Heard = slices.Insert(want.Heard, 2, heard(5, reported(1, lockOn(2, 7), 0, 5, 2, 7), reported(2, noLock, 1, 2)))
	wantRep(t, p.r, want)
}

func TestReportsAreInserted(t *testing.T) {
	p := play(t, idle(7, 6, 9))
	for _, view := range []int{4, 9, 1, 7, 2} {
		p.hears(view%5, reporting(view), "")
	}
	p.hears(0, report(4, lockOn(3, 2), votes(0, 1)...), "")
	p.hears(5, report(4, noLock, votes(3, 1)...), "")
	want := idle(7, 6, 9)
	want.Heard = []impl.Heard{
		heard(1, reported(1, noLock)),
		heard(2, reported(2, noLock)),
		heard(4, reported(0, lockOn(3, 2), 0, 1), reported(4, noLock), reported(5, noLock, 3, 1)),
		heard(7, reported(2, noLock)),
		heard(9, reported(4, noLock)),
	}
	wantRep(t, p.r, want)
}

// An element of Heard that is there without reports is used.
func TestReportIsAddedToAnEmptyElement(t *testing.T) {
	r := idle(4, 1, 3)
	r.Heard = []impl.Heard{heard(2), heard(4), heard(6)}
	p := play(t, r)
	p.hears(0, reporting(4), "")
	r.Heard = []impl.Heard{heard(2), heard(4, reported(0, noLock)), heard(6)}
	wantRep(t, p.r, r)
}

func TestSecondMessageChangesNothing(t *testing.T) {
	firsts := []impl.Msg{proposing(2, 8), voting(5, 8), readying(1, 8), deciding(8), report(4, lockOn(1, 8), votes(1, 8)...)}
	seconds := [][]impl.Msg{
		{proposing(2, 8), proposing(2, 7), proposing(2, 60)},
		{voting(5, 8), voting(5, 7), voting(5, 60)},
		{readying(1, 8), readying(1, 7), readying(1, 60)},
		{deciding(8), deciding(7), deciding(60)},
		{report(4, lockOn(1, 8), votes(1, 8)...), reporting(4), report(4, lockOn(2, 7), votes(2, 7, 3, 7)...)},
	}
	for i, m := range firsts {
		p := play(t, idle(7, 1, 5))
		p.hears(2, m, "")
		once := p.r
		for _, again := range seconds[i] {
			p.hears(2, again, "")
			wantRep(t, p.r, once)
		}
	}
}

// Neither the second value of a sender nor its repeated message counts for a quorum.
func TestRepeatedMessagesAreNoQuorum(t *testing.T) {
	p := play(t, idle(4, 1, 0))
	for range 3 {
		p.hears(2, voting(0, 5), "")
		p.hears(2, readying(0, 5), "")
		p.hears(2, deciding(5), "")
		p.hears(2, reporting(1), "")
		p.hears(2, reporting(3), "")
		p.hears(3, voting(0, 6), "")
		p.hears(3, voting(0, 5), "")
	}
	p.hears(0, voting(0, 5), "")
	if p.r.View != 0 || p.r.Done != 0 || p.r.Lock != noLock {
		t.Error(p.r)
	}
}

func TestProposalsOfOthers(t *testing.T) {
	for n, view := range map[int]int{4: 6, 7: 9} { // both are led by 2
		base := idle(n, 1, 0)
		p := play(t, base)
		for from := range n {
			if from == 1 {
				continue
			}
			if from != 0 {
				p.hears(from, proposing(0, 8), "")
			}
			if from != 2 {
				p.hears(from, proposing(view, 8), "")
			}
		}
		wantRep(t, p.r, base)
		p.hears(2, proposing(view, 8), "")
		p.hears(0, proposing(0, 7), "vote 0 7")
		if !sameTally(p.r.Props, tally(0, 0, 7, 2, view, 8)) {
			t.Error(p.r)
		}
	}
}

// A liar cannot make the leader itself vote for another value, as a proposal of its view is recorded from itself alone.
func TestLeaderHearsNoProposalOfItsView(t *testing.T) {
	r, _, _ := impl.RepNew(4, 0, 9)
	p := play(t, r)
	for _, from := range []int{1, 2, 3} {
		p.hears(from, proposing(0, 5), "")
		p.hears(from, proposing(4, 5), "")
	}
	wantRep(t, p.r, r)
}

func TestVote(t *testing.T) {
	for _, val := range []int{1, 9, 60} {
		p := play(t, idle(7, 3, 0))
		p.hears(0, proposing(0, val), "vote "+string(impl.MsgText(voting(0, val)))[5:])
		p.hears(0, proposing(0, 61-val), "")
		want := idle(7, 3, 0)
		want.Voted, want.Props, want.Votes = votes(0, val), tally(0, 0, val), tally(3, 0, val)
		wantRep(t, p.r, want)
	}
}

func TestVoteInALaterView(t *testing.T) {
	p := play(t, idle(4, 0, 2)) // led by 2
	p.hears(1, report(2, lockOn(1, 5), votes(1, 5)...), "")
	p.hears(2, proposing(2, 5), "")
	p.hears(2, report(2, noLock, votes(1, 5)...), "") // 5 has grounds, but two reports are no quorum
	p.hears(3, report(2, lockOn(0, 7), votes(0, 7)...), "vote 2 5")
	p.hears(2, proposing(2, 7), "")
	if !slices.Equal(p.r.Voted, votes(2, 5)) {
		t.Error(p.r)
	}
}

func TestNoVoteForAnUnsafeProposal(t *testing.T) {
	p := play(t, idle(4, 0, 2))
	p.hears(1, report(2, lockOn(1, 5), votes(1, 5)...), "")
	p.hears(2, report(2, noLock, votes(1, 5)...), "")
	p.hears(3, report(2, lockOn(0, 7), votes(0, 7)...), "")
	p.hears(2, proposing(2, 7), "")
	p.hears(2, proposing(2, 5), "") // the first one remains
	if len(p.r.Voted) != 0 {
		t.Error(p.r)
	}
}

// The reports of another view do not make a value safe.
func TestVoteByTheReportsOfTheView(t *testing.T) {
	r := idle(4, 0, 2)
	r.Heard = []impl.Heard{heard(1, unboundReports(1, 2, 3)...), heard(3, unboundReports(1)...)}
	p := play(t, r)
	p.hears(2, proposing(2, 5), "")
	p.hears(1, reporting(2), "")
	p.hears(2, reporting(2), "")
	p.hears(3, reporting(2), "vote 2 5")
}

// A vote in an earlier view does not prevent one, and a replica that skipped views votes where it is.
func TestVoteOnceInEachView(t *testing.T) {
	r := idle(4, 3, 1)
	r.Voted = votes(0, 5)
	r.Heard = []impl.Heard{heard(1, unboundReports(0, 1, 2)...)}
	p := play(t, r)
	p.hears(0, proposing(0, 6), "")
	p.hears(1, proposing(1, 7), "vote 1 7")
	p.hears(2, proposing(2, 8), "")
	p.hears(0, reporting(2), "")
	p.hears(2, reporting(2), "report 2 0:5 1:7, vote 2 8")
	if !slices.Equal(p.r.Voted, votes(0, 5, 1, 7, 2, 8)) {
		t.Error(p.r)
	}
}

// The leader of a later view proposes once it has a strong quorum of reports, its own value if they are free.
func TestLeaderOfALaterViewProposes(t *testing.T) {
	p := play(t, idle(4, 1, 5))
	p.hears(0, reporting(5), "")
	p.hears(3, report(5, noLock, votes(4, 7)...), "")
	p.hears(2, report(5, lockOn(3, 8), votes(3, 8)...), "") // three reports, but not free, and 8 has no grounds
	wantRep(t, p.r, changed(idle(4, 1, 5), func(r *impl.Rep) {
		r.Heard = []impl.Heard{heard(5, reported(0, noLock), reported(2, lockOn(3, 8), 3, 8), reported(3, noLock, 4, 7))}
	}))

	p = play(t, idle(4, 1, 5))
	p.hears(0, reporting(5), "")
	p.hears(3, report(5, noLock, votes(4, 7)...), "")
	p.hears(2, report(5, noLock, votes(3, 8)...), "propose 5 9, vote 5 9")

	p = play(t, idle(4, 1, 5))
	p.hears(0, report(5, noLock, votes(3, 8)...), "")
	p.hears(3, report(5, noLock, votes(4, 7)...), "")
	p.hears(2, report(5, lockOn(3, 8), votes(3, 8)...), "propose 5 8, vote 5 8")

	p = play(t, idle(7, 2, 9))
	for _, from := range []int{0, 1, 3, 4} {
		p.hears(from, reporting(9), "")
	}
	p.hears(6, reporting(9), "propose 9 9, vote 9 9")
	p.hears(5, reporting(9), "")
}

// With a fourth report the leader proposes what it could not choose by three.
func TestLeaderProposesWhenItCanChoose(t *testing.T) {
	p := play(t, idle(4, 2, 2))
	p.hears(0, report(2, lockOn(1, 5), votes(1, 5)...), "")
	p.hears(1, report(2, lockOn(0, 6), votes(0, 6)...), "")
	p.hears(3, report(2, lockOn(0, 7), votes(0, 7)...), "")
	r := p.r
	r.Heard = []impl.Heard{heard(2, append(slices.Clone(r.Heard[0].L[:2]), reported(3, noLock, 1, 5))...)}
	p = play(t, r)
	p.hears(0, voting(0, 1), "propose 2 5, vote 2 5") // by 0, 1 and 3, the value 5 has the grounds 1
}

func TestOthersDoNotPropose(t *testing.T) {
	for n, leader := range map[int]int{4: 1, 7: 5} {
		for id := range n {
			if id == leader {
				continue
			}
			p := play(t, idle(n, id, 5))
			for from := range n {
				if from != id {
					p.hears(from, reporting(5), "")
				}
			}
		}
	}
}

// In view 0 the leader needs no reports; it proposes Own whenever its proposal is missing.
func TestLeaderOfTheFirstView(t *testing.T) {
	p := play(t, idle(4, 0, 0))
	p.hears(1, voting(0, 3), "propose 0 9, vote 0 9")
	p = play(t, changed(idle(4, 0, 0), func(r *impl.Rep) { r.Props = tally(0, 0, 4) }))
	p.hears(1, voting(0, 3), "vote 0 4")
	p = play(t, changed(idle(4, 0, 0), func(r *impl.Rep) { r.Voted = votes(0, 3) }))
	p.hears(1, voting(0, 3), "propose 0 9")
}

func TestLock(t *testing.T) {
	for n, others := range map[int][]int{4: {0, 2}, 7: {0, 2, 3, 6}} {
		p := play(t, idle(n, 1, 0))
		p.hears(0, proposing(0, 5), "vote 0 5")
		last := others[len(others)-1]
		for _, from := range others[:len(others)-1] {
			p.hears(from, voting(0, 5), "")
		}
		p.hears(last, voting(0, 5), "ready 0 5")
		if p.r.Lock != lockOn(0, 5) || !sameTally(p.r.Readies, tally(1, 0, 5)) {
			t.Error(p.r)
		}
		for from := range n {
			if from != 1 {
				p.hears(from, voting(0, 5), "")
			}
		}
	}
}

// Votes of other views and for other values do not lock; a replica that has not voted locks as well.
func TestLockByTheVotesOfItsView(t *testing.T) {
	p := play(t, idle(4, 0, 2))
	for _, from := range []int{1, 2, 3} {
		p.hears(from, voting(1, 5), "")
		p.hears(from, voting(3, 5), "")
	}
	p.hears(1, voting(2, 5), "")
	p.hears(2, voting(2, 6), "")
	p.hears(3, voting(2, 5), "")
	p = play(t, idle(4, 0, 2))
	p.hears(1, voting(2, 5), "")
	p.hears(2, voting(2, 5), "")
	p.hears(3, voting(2, 5), "ready 2 5")
	if p.r.Lock != lockOn(2, 5) || len(p.r.Voted) != 0 {
		t.Error(p.r)
	}
}

// A lock on the same value in an earlier view becomes one in View, and a lock on another value in View is replaced.
func TestLockIsReplaced(t *testing.T) {
	for _, lock := range []impl.Vote{noLock, lockOn(0, 5), lockOn(1, 5), lockOn(1, 6), lockOn(2, 6)} {
		r := idle(4, 0, 2)
		r.Lock = lock
		p := play(t, r)
		p.hears(1, voting(2, 5), "")
		p.hears(2, voting(2, 5), "")
		p.hears(3, voting(2, 5), "ready 2 5")
		if p.r.Lock != lockOn(2, 5) {
			t.Error(lock, p.r)
		}
	}
	r := idle(4, 0, 2)
	r.Lock = lockOn(2, 5)
	p := play(t, r)
	for _, from := range []int{1, 2, 3} {
		p.hears(from, voting(2, 5), "")
	}
}

// Votes of a later view count when the replica is there.
func TestLockOnEntering(t *testing.T) {
	r := idle(4, 0, 1)
	r.Left = 1
	p := play(t, r)
	for _, from := range []int{1, 2, 3} {
		p.hears(from, voting(2, 5), "")
	}
	p.ticks("report 2, ready 2 5")
	if p.r.Lock != lockOn(2, 5) || p.r.Left != 5 {
		t.Error(p.r)
	}
}

func TestDecideByReadies(t *testing.T) {
	for n, others := range map[int][]int{4: {0, 2, 3}, 7: {0, 2, 3, 4, 6}} {
		for _, view := range []int{0, 3, 4, 5, 9} { // earlier views, View and later ones
			p := play(t, idle(n, 1, 4))
			last := others[len(others)-1]
			for _, from := range others[:len(others)-1] {
				p.hears(from, readying(view, 5), "")
			}
			p.hears(last, readying((view+1)%10, 5), "")
			p.hears(last, deciding(7), "")
			p.hears(last, readying(view, 5), "done 5")
			if p.r.Done != 5 || p.r.Lock != noLock || p.r.View != 4 || !sameTally(p.r.Dones, tally(1, 0, 5, last, 0, 7)) {
				t.Error(p.r)
			}
		}
	}
}

func TestDecideByDones(t *testing.T) {
	for n, others := range map[int][]int{4: {0, 3}, 7: {0, 3, 6}} {
		p := play(t, idle(n, 1, 4))
		p.hears(2, deciding(6), "")
		for _, from := range others[:len(others)-1] {
			p.hears(from, deciding(5), "")
		}
		p.hears(others[len(others)-1], deciding(5), "done 5")
		if p.r.Done != 5 || len(p.r.Readies.L) != 0 {
			t.Error(p.r)
		}
	}
}

// If both are possible the done messages count; of several views and values the smallest does.
func TestWhichDecisionCounts(t *testing.T) {
	for _, c := range []struct {
		what           string
		n              int
		readies, dones impl.Tally
		want           string
	}{
		{"both", 4, viewTally(0, 5, 5, 5), viewTally(0, 6, 6), "done 6"},
		{"both, done messages greater", 4, viewTally(0, 5, 5, 5), viewTally(0, 0, 0, 60, 60), "done 60"},
		{"too few done messages", 4, viewTally(0, 5, 5, 5), viewTally(0, 6), "done 5"},
		{"too few of 7", 7, viewTally(3, 5, 5, 5, 5, 5), viewTally(0, 6, 6), "done 5"},
		{"both of 7", 7, viewTally(3, 5, 5, 5, 5, 5), viewTally(0, 6, 6, 0, 6), "done 6"},
		{"two values of done messages", 7, viewTally(3, 5, 5, 5, 5, 5), viewTally(0, 8, 8, 8, 7, 7, 7), "done 7"},
		{"two values of 4", 4, impl.Tally{}, viewTally(0, 8, 3, 3, 8), "done 3"},
		{"the smallest view", 4, both(viewTally(2, 9, 9, 9), viewTally(5, 5, 5, 5)), impl.Tally{}, "done 9"},
		{"the smallest view that has it", 4, both(viewTally(0, 9, 9, 8, 8), viewTally(2, 7, 7, 7), viewTally(9, 1, 1, 1, 1)), impl.Tally{}, "done 7"},
		{"view 0 first", 7, both(viewTally(0, 0, 0, 60, 60, 60, 60, 60), viewTally(1, 1, 1, 1, 1, 1)), impl.Tally{}, "done 60"},
		{"two views together", 4, both(viewTally(2, 5, 5), viewTally(3, 0, 0, 5, 5)), impl.Tally{}, ""},
		{"too few of both", 7, viewTally(3, 5, 5, 5, 5), viewTally(0, 5, 5), ""},
	} {
		r := idle(c.n, 3, 4)
		r.Readies, r.Dones = c.readies, c.dones
		play(t, r).hears(0, voting(8, 1), c.want)
	}
}

// both are ballots of ascending views in one tally.
func both(l ...impl.Tally) impl.Tally {
	var t impl.Tally
	for _, x := range l {
		t.L = append(t.L, x.L...)
	}
	return t
}

// A vote that completes the quorum makes the replica lock, and with the ready messages there decide.
func TestVoteLocksAndDecides(t *testing.T) {
	p := play(t, idle(4, 1, 0))
	p.hears(0, proposing(0, 5), "vote 0 5")
	p.hears(2, readying(0, 5), "")
	p.hears(3, readying(0, 5), "")
	p.hears(2, voting(0, 5), "")
	p.hears(3, voting(0, 5), "ready 0 5, done 5")
	wantRep(t, p.r, impl.Rep{
		N: 4, Id: 1, Own: 9, Left: 3, Voted: votes(0, 5), Lock: lockOn(0, 5), Done: 5,
		Props:   tally(0, 0, 5),
		Votes:   tally(1, 0, 5, 2, 0, 5, 3, 0, 5),
		Readies: tally(1, 0, 5, 2, 0, 5, 3, 0, 5),
		Dones:   tally(1, 0, 5),
	})
	p = play(t, idle(7, 6, 0))
	for _, from := range []int{1, 2, 3, 4} {
		p.hears(from, readying(0, 5), "")
		p.hears(from, voting(0, 5), "")
	}
	p.hears(0, proposing(0, 5), "vote 0 5, ready 0 5, done 5") // its own vote completes the quorum
}

// The own vote alone may complete what only the ready message does not.
func TestVoteAndLockWithoutDecision(t *testing.T) {
	p := play(t, idle(4, 1, 0))
	p.hears(2, voting(0, 5), "")
	p.hears(3, voting(0, 5), "")
	p.hears(3, readying(0, 5), "")
	p.hears(0, proposing(0, 5), "vote 0 5, ready 0 5")
	p.hears(2, readying(0, 5), "done 5")
}

// A report that makes the replica join a view that it leads lets it propose there and vote.
func TestJoinProposeVote(t *testing.T) {
	p := play(t, changed(idle(4, 2, 0), func(r *impl.Rep) { r.Voted, r.Lock = votes(0, 5), lockOn(0, 5) }))
	p.hears(0, report(2, noLock, votes(0, 5)...), "")
	p.hears(3, report(2, noLock, votes(0, 5)...), "report 2 bound 0:5 0:5, propose 2 5, vote 2 5")
	want := idle(4, 2, 2)
	want.Voted, want.Lock = votes(0, 5, 2, 5), lockOn(0, 5)
	want.Props, want.Votes = tally(2, 2, 5), tally(2, 2, 5)
	want.Heard = []impl.Heard{heard(2, reported(0, noLock, 0, 5), reported(2, lockOn(0, 5), 0, 5), reported(3, noLock, 0, 5))}
	wantRep(t, p.r, want)

	p = play(t, idle(4, 1, 4))
	p.hears(0, reporting(9), "")
	p.hears(2, reporting(9), "report 9, propose 9 9, vote 9 9")

	p = play(t, changed(idle(7, 2, 4), func(r *impl.Rep) { r.Heard = []impl.Heard{heard(9, unboundReports(0, 1, 3)...)} }))
	p.hears(4, reporting(9), "report 9, propose 9 9, vote 9 9")
}

// With all that one message can lead to, the messages come in the order of the actions.
func TestAllActionsAtOnce(t *testing.T) {
	p := play(t, idle(4, 3, 1))
	for _, from := range []int{0, 1} {
		p.hears(from, voting(3, 9), "")
		p.hears(from, readying(3, 9), "")
	}
	p.hears(0, reporting(3), "")
	p.hears(1, reporting(3), "report 3, propose 3 9, vote 3 9, ready 3 9, done 9")
	if p.r.View != 3 || p.r.Left != 6 || p.r.Lock != lockOn(3, 9) || p.r.Done != 9 {
		t.Error(p.r)
	}
}

// A report that is due comes before a decision that is due, and has the lock of before.
func TestJoiningComesFirst(t *testing.T) {
	r := idle(4, 0, 1)
	r.Votes = viewTally(1, 0, 5, 5, 5)
	r.Readies = viewTally(1, 0, 6, 6, 6)
	r.Heard = []impl.Heard{heard(2, unboundReports(1, 2)...)}
	p := play(t, r)
	p.hears(1, voting(0, 1), "report 2, done 6")
	if p.r.Lock != noLock || p.r.View != 2 {
		t.Error(p.r)
	}
}

func TestDecidedReplicaGoesOn(t *testing.T) {
	r := idle(4, 0, 1)
	r.Done, r.Dones, r.Lock = 5, tally(0, 0, 5), lockOn(0, 5)
	r.Heard = []impl.Heard{heard(1, unboundReports(1, 2, 3)...)}
	p := play(t, r)
	p.hears(1, proposing(1, 6), "vote 1 6")
	p.hears(1, voting(1, 6), "")
	p.hears(2, voting(1, 6), "ready 1 6")
	p.hears(1, readying(1, 6), "")
	p.hears(2, readying(1, 6), "")
	p.hears(3, readying(1, 6), "")
	for _, from := range []int{1, 2, 3} {
		p.hears(from, deciding(6), "")
	}
	p.hears(3, report(4, noLock), "")
	p.hears(2, report(4, noLock, votes(1, 6)...), "report 4 bound 1:6 1:6, propose 4 6, vote 4 6")
	if p.r.Done != 5 || p.r.View != 4 || p.r.Lock != lockOn(1, 6) || !slices.Equal(p.r.Voted, votes(1, 6, 4, 6)) {
		t.Error(p.r)
	}
}

func TestJoinView(t *testing.T) {
	for _, c := range []struct {
		what          string
		n, view, want int
		l             []impl.Heard
	}{
		{"nothing heard", 4, 0, 0, nil},
		{"one report", 4, 0, 0, []impl.Heard{heard(1, unboundReports(0)...)}},
		{"two reports", 4, 0, 1, []impl.Heard{heard(1, unboundReports(0, 3)...)}},
		{"two of 7", 7, 0, 0, []impl.Heard{heard(1, unboundReports(0, 3)...)}},
		{"three of 7", 7, 0, 1, []impl.Heard{heard(1, unboundReports(0, 3, 6)...)}},
		{"all of a view", 4, 2, 9, []impl.Heard{heard(9, unboundReports(0, 1, 2, 3)...)}},
		{"its own report counts", 4, 0, 3, []impl.Heard{heard(3, unboundReports(0, 2)...)}},
		{"one sender in two views", 4, 0, 0, []impl.Heard{heard(1, unboundReports(3)...), heard(2, unboundReports(3)...)}},
		{"one in the view, one beyond", 4, 0, 4, []impl.Heard{heard(4, unboundReports(0)...), heard(8, unboundReports(3)...)}},
		{"each in another view", 7, 0, 2, []impl.Heard{heard(1, unboundReports(0)...), heard(2, unboundReports(1)...), heard(5, unboundReports(2)...), heard(9, unboundReports(3)...)}},
		{"a sender twice in that", 7, 0, 1, []impl.Heard{heard(1, unboundReports(0)...), heard(2, unboundReports(3)...), heard(5, unboundReports(2)...), heard(9, unboundReports(3)...)}},
		{"the greatest of two", 4, 0, 5, []impl.Heard{heard(2, unboundReports(0, 1)...), heard(5, unboundReports(2, 3)...)}},
		{"in View", 4, 2, 2, []impl.Heard{heard(2, unboundReports(0, 1, 2, 3)...)}},
		{"before View", 4, 3, 3, []impl.Heard{heard(1, unboundReports(0, 1)...), heard(2, unboundReports(0, 1, 2, 3)...)}},
		{"one in View, one beyond", 4, 2, 2, []impl.Heard{heard(2, unboundReports(0, 1)...), heard(3, unboundReports(2)...)}},
		{"just beyond View", 4, 8, 9, []impl.Heard{heard(9, unboundReports(0, 1)...)}},
		{"in the last view", 4, 9, 9, []impl.Heard{heard(8, unboundReports(0, 1)...), heard(9, unboundReports(0, 1)...)}},
		{"empty elements", 4, 0, 3, []impl.Heard{heard(1), heard(3, unboundReports(1, 2)...), heard(4), heard(9)}},
	} {
		r := idle(c.n, 2, c.view)
		r.Heard = c.l
		if got := impl.JoinView(r); got != c.want || got != joinable(r) {
			t.Error(c.what, got)
		}
		if r.View != c.want {
			got, sent := impl.RepHear(r, 0, voting(0, 1))
			if got.View != c.want || got.Left != 3+c.want || len(sent) == 0 || !sameMsg(sent[0], reporting(c.want)) {
				t.Error(c.what, got, sent)
			}
		}
	}
}

// A replica joins exactly when a weak quorum is in a view or beyond, one of 4 or two of 7 liars cannot make it.
func TestJoinExactlyWithAWeakQuorum(t *testing.T) {
	for n, others := range map[int][]int{4: {0, 3}, 7: {0, 3, 6}} {
		p := play(t, changed(idle(n, 1, 2), func(r *impl.Rep) { r.Voted, r.Lock = votes(0, 5, 1, 7), lockOn(1, 7) }))
		for _, from := range others[:len(others)-1] {
			for view := 1; view <= 9; view++ {
				p.hears(from, reporting(view), "")
			}
		}
		last := others[len(others)-1]
		p.hears(last, reporting(2), "")
		p.hears(last, reporting(4), "report 4 bound 1:7 0:5 1:7")
		if p.r.View != 4 || p.r.Left != 7 || impl.JoinView(p.r) != 4 {
			t.Error(p.r)
		}
		p.hears(last, reporting(3), "")
		p.hears(last, reporting(9), "report 9 bound 1:7 0:5 1:7")
	}
}

func TestTick(t *testing.T) {
	for view := 0; view <= 9; view++ {
		for _, done := range []int{0, 5} {
			base := idle(7, 6, view) // the leader of view 6, which proposes only with reports
			base.Done, base.Lock, base.Voted = done, lockOn(view, 5), votes(view, 5)
			for left := 3 + view; left > 1; left-- {
				base.Left = left
				p := play(t, base)
				p.ticks("")
				wantRep(t, p.r, changed(base, func(r *impl.Rep) { r.Left-- }))
			}
			base.Left = 1
			p := play(t, base)
			if done != 0 || view == 9 {
				p.ticks("")
				wantRep(t, p.r, base)
				continue
			}
			m := report(view+1, base.Lock, base.Voted...)
			p.ticks(string(impl.MsgText(m)))
			wantRep(t, p.r, changed(base, func(r *impl.Rep) {
				r.View, r.Left = view+1, 4+view
				r.Heard = []impl.Heard{heard(view+1, reported(6, r.Lock, view, 5))}
			}))
		}
	}
}

// The timers of all views run for 3 + View ticks, until the last view.
func TestTicksThroughAllViews(t *testing.T) {
	p := play(t, idle(4, 3, 0))
	for view := range 9 {
		for range 2 + view {
			p.ticks("")
		}
		p.ticks(string(impl.MsgText(reporting(view + 1))))
	}
	for range 20 {
		p.ticks("")
	}
	want := idle(4, 3, 9)
	want.Left, want.Heard = 1, everyView(3)
	wantRep(t, p.r, want)
}

// A tick that does not end the timer does nothing else, whatever is possible; one that ends it advances.
func TestTickAdvancesOnEnteringOnly(t *testing.T) {
	r := idle(4, 1, 0)
	r.Left = 2
	r.Props, r.Votes = tally(0, 0, 5), viewTally(1, 9, 0, 9)
	r.Heard = []impl.Heard{heard(1, unboundReports(0, 2)...)}
	p := play(t, r)
	p.ticks("")
	wantRep(t, p.r, changed(r, func(r *impl.Rep) { r.Left = 1 }))
	p.ticks("report 1, propose 1 9, vote 1 9, ready 1 9")
	if p.r.View != 1 || p.r.Left != 4 || p.r.Lock != lockOn(1, 9) {
		t.Error(p.r)
	}
	for _, stuck := range []impl.Rep{changed(r, func(r *impl.Rep) { r.Left, r.Done = 1, 5 }), changed(r, func(r *impl.Rep) {
		r.Left, r.View, r.Votes = 1, 9, viewTally(9, 5, 0, 5, 5)
	})} {
		p = play(t, stuck)
		p.ticks("")
		wantRep(t, p.r, stuck)
	}
}

func TestReportOf(t *testing.T) {
	for _, view := range []int{0, 3, 8, 9} {
		r := idle(4, 1, view)
		r.Lock, r.Voted = lockOn(view, 60), votes(view, 60)
		if view > 0 {
			r.Voted = votes(0, 1, view, 60)
		}
		for _, at := range []int{math.MinInt, -1, 0, view - 1, view, view + 1, 9, 10, 11, 256 + 9, math.MaxInt} {
			m, ok := impl.ReportOf(r, at)
			if view < at && at <= 9 {
				wantMsg(t, m, ok, report(at, r.Lock, r.Voted...))
			} else {
				wantNoMsg(t, m, ok)
			}
		}
	}
	m, ok := impl.ReportOf(idle(7, 0, 0), 1)
	wantMsg(t, m, ok, reporting(1))
	m, ok = impl.ReportOf(busy(), 4)
	wantMsg(t, m, ok, report(4, lockOn(2, 7), votes(0, 5, 2, 7)...))
}

func TestRepText(t *testing.T) {
	decided := busy()
	decided.Done = 60
	first := idle(4, 0, 0)
	first.Done = 1
	lockedFirst := idle(7, 6, 9)
	lockedFirst.Lock = lockOn(0, 10)
	for want, r := range map[string]impl.Rep{
		"replica 1 view 3 bound 2:7\n":            busy(),
		"replica 1 view 3 bound 2:7 decided 60\n": decided,
		"replica 0 view 0 decided 1\n":            first,
		"replica 6 view 9 bound 0:10\n":           lockedFirst,
		"replica 3 view 2\n":                      idle(4, 3, 2),
	} {
		if got := string(impl.RepText(r)); got != want {
			t.Errorf("%q, want %q", got, want)
		}
	}
}

func TestVotedIn(t *testing.T) {
	for at, want := range map[int]int{math.MinInt: 0, -1: 0, 0: 5, 1: 0, 2: 7, 3: 0, 4: 0, 9: 0, 10: 0, math.MaxInt: 0} {
		if got, ok := impl.VotedIn(busy(), at); got != want || ok != (want != 0) {
			t.Error(at, got, ok)
		}
	}
	if got, ok := impl.VotedIn(idle(4, 0, 0), 0); got != 0 || ok {
		t.Error(got, ok)
	}
}

func TestHeardFrom(t *testing.T) {
	r := busy()
	r.Heard = append(r.Heard, heard(9))
	for at, want := range map[int][]int{math.MinInt: nil, -1: nil, 0: nil, 1: nil, 2: {0, 1, 3}, 3: {1, 2}, 4: nil, 8: {3}, 9: nil, 10: nil, math.MaxInt: nil} {
		if got := impl.HeardFrom(r, at); !slices.Equal(got, want) {
			t.Error(at, got)
		}
	}
}

func TestWaits(t *testing.T) {
	for _, c := range []struct {
		what string
		r    impl.Rep
		want bool
	}{
		{"idle", idle(4, 0, 0), true},
		{"voted before", busy(), true},
		{"voted in View", changed(busy(), func(r *impl.Rep) { r.Voted = votes(0, 5, 3, 7) }), false},
		{"voted in view 0", changed(idle(7, 3, 0), func(r *impl.Rep) { r.Voted = votes(0, 5) }), false},
		{"decided", changed(busy(), func(r *impl.Rep) { r.Done = 7 }), false},
		{"voted and decided", changed(idle(4, 0, 9), func(r *impl.Rep) { r.Voted, r.Done = votes(9, 5), 1 }), false},
	} {
		if got := impl.Waits(c.r); got != c.want {
			t.Error(c.what, got)
		}
	}
}

func TestTellOf(t *testing.T) {
	r := idle(4, 1, 5)
	r.Props = tally(0, 0, 5, 1, 5, 9)
	r.Votes = tally(1, 0, 5, 2, 0, 5, 1, 5, 9)
	r.Readies = tally(1, 3, 8, 0, 4, 8)
	r.Dones = tally(1, 0, 8, 3, 0, 7)
	r.Heard = []impl.Heard{heard(2, reported(1, noLock)), heard(4, reported(0, noLock))}
	told := []impl.Msg{proposing(5, 9), voting(0, 5), voting(5, 9), readying(3, 8), deciding(8), reporting(2), report(2, lockOn(1, 9), votes(0, 7)...)}
	for _, m := range told {
		if !impl.TellOf(r, m) {
			t.Error(m)
		}
	}
	for _, m := range []impl.Msg{
		proposing(5, 8), proposing(1, 9), proposing(0, 5), proposing(4, 9), voting(0, 6), voting(1, 5), voting(5, 5), voting(3, 8),
		readying(3, 9), readying(4, 8), readying(5, 9), deciding(7), deciding(5), reporting(4), reporting(1), reporting(3), reporting(9),
	} {
		if impl.TellOf(r, m) {
			t.Error(m)
		}
	}
	nearlyTold := []impl.Msg{
		plain(5, 0, 8), plain(-1, 0, 8), plain(impl.MsDone, 5, 8), {Kind: impl.MsReport, View: 2, Val: 9}, report(2, lockOn(2, 9)), report(2, noLock, votes(2, 9)...),
		{Kind: impl.MsPropose, View: 5, Val: 9, Lock: lockOn(1, 9)}, {Kind: impl.MsVote, View: 5, Val: 9, Votes: votes(1, 9)}, {Kind: impl.MsReady, View: 3, Val: 8, Lock: lockOn(1, 0)},
	}
	for name, m := range invalidMsgs() {
		if impl.TellOf(r, m) {
			t.Error(name)
		}
	}
	for _, m := range nearlyTold {
		if impl.TellOf(r, m) {
			t.Error(m)
		}
	}
	for name, wrong := range invalidReps() {
		for _, m := range told {
			if impl.TellOf(wrong, m) {
				t.Error(name, m)
			}
		}
	}
}

func TestRepHearRefuses(t *testing.T) {
	refused := func(what string, r impl.Rep, from int, m impl.Msg) {
		t.Helper()
		if got, sent := impl.RepHear(r, from, m); !zeroRep(got) || len(sent) != 0 {
			t.Error(what, got, sent)
		}
	}
	some := []impl.Msg{proposing(0, 5), voting(3, 5), readying(0, 5), deciding(5), reporting(4), exampleReport()}
	for name, r := range invalidReps() {
		for _, m := range some {
			refused(name, r, 0, m)
			refused(name, r, 3, m)
		}
	}
	for _, m := range some {
		for _, n := range []int{4, 7} {
			for _, id := range []int{0, 1, n - 1} {
				for _, from := range []int{math.MinInt, -n, -1, id, n, n + 1, 256 + n, math.MaxInt} {
					refused("from", idle(n, id, 3), from, m)
				}
			}
		}
		refused("from itself", busy(), 1, m)
		refused("from 4 of 4", busy(), 4, m)
	}
	for name, m := range invalidMsgs() {
		refused(name, busy(), 0, m)
		refused(name, idle(7, 1, 2), 6, m)
	}
}

func TestInvalidReplicas(t *testing.T) {
	for name, r := range invalidReps() {
		if got, sent := impl.RepTick(r); !zeroRep(got) || len(sent) != 0 {
			t.Error(name, "RepTick", got, sent)
		}
		if got := impl.JoinView(r); got != -1 {
			t.Error(name, "JoinView", got)
		}
		if got := impl.RepText(r); got != nil {
			t.Errorf("%s: RepText %q", name, got)
		}
		if impl.Waits(r) {
			t.Error(name, "Waits")
		}
		for view := -1; view <= 10; view++ {
			if m, ok := impl.ReportOf(r, view); ok || !zeroMsg(m) {
				t.Error(name, "ReportOf", m, ok)
			}
			if val, ok := impl.VotedIn(r, view); ok || val != 0 {
				t.Error(name, "VotedIn", val, ok)
			}
			if l := impl.HeardFrom(r, view); len(l) != 0 {
				t.Error(name, "HeardFrom", l)
			}
		}
	}
}

// memoryReps are replicas for which a message or a tick leads to every kind of change.
func memoryReps(t *testing.T) []impl.Rep {
	c := newCourse(t)
	l := []impl.Rep{idle(4, 2, 1), idle(7, 0, 0), busy(), changed(busy(), func(r *impl.Rep) { r.Left = 1 })}
	for i := range 300 {
		r := c.anyRep(4+i%2*3, 1+i%3)
		if i%3 == 0 {
			r.Left = 1
		}
		l = append(l, r)
	}
	return l
}

// someMsgs are messages with what is to be recorded, one of each kind.
func someMsgs(r impl.Rep) []impl.Msg {
	l := []impl.Msg{proposing(r.View, 9), voting(r.View, 9), readying(r.View, 9), deciding(9)}
	return append(l, report(min(r.View+1, 9), noLock, votes(0, 9)...), report(9, lockOn(8, 5), votes(0, 5, 8, 5)...))
}

func TestReplicasAreNotModified(t *testing.T) {
	for _, plainRep := range memoryReps(t) {
		r, kept := spareRep(plainRep)
		for _, m := range someMsgs(r) {
			var room []impl.Vote
			m.Votes, room = spare(m.Votes)
			before := slices.Clone(room)
			for from := range r.N {
				got, sent := impl.RepHear(r, from, m)
				want, wantSent := impl.RepHear(plainRep, from, m)
				if !sameRep(got, want) || !sameMsgs(sent, wantSent) {
					t.Fatal(plainRep, m, "what is behind the slices was read")
				}
			}
			impl.TellOf(r, m)
			if !slices.Equal(room, before) {
				t.Fatal(plainRep, m, "the message was modified")
			}
		}
		got, sent := impl.RepTick(r)
		want, wantSent := impl.RepTick(plainRep)
		if !sameRep(got, want) || !sameMsgs(sent, wantSent) || !impl.RepOk(r) {
			t.Fatal(plainRep, "what is behind the slices was read")
		}
		impl.JoinView(r)
		impl.RepText(r)
		impl.Waits(r)
		for view := -1; view <= 10; view++ {
			impl.ReportOf(r, view)
			impl.VotedIn(r, view)
			impl.HeardFrom(r, view)
		}
		if !kept() {
			t.Fatal(plainRep, "was modified")
		}
	}
}

func TestInvalidReplicasAreNotModified(t *testing.T) {
	for name, r := range invalidReps() {
		if len(r.Props.L)+len(r.Votes.L)+len(r.Readies.L)+len(r.Dones.L) > 1000 {
			continue
		}
		r, kept := spareRep(r)
		for _, m := range someMsgs(idle(4, 0, 3)) {
			impl.RepHear(r, 0, m)
			impl.TellOf(r, m)
		}
		impl.RepTick(r)
		impl.ReportOf(r, 5)
		if !kept() {
			t.Error(name)
		}
	}
}

// wantOwnMemory checks that each slice of two results of the same call is memory of its own.
func wantOwnMemory(t *testing.T, args []span, call func() (impl.Rep, []impl.Msg)) {
	t.Helper()
	one, oneSent := call()
	two, twoSent := call()
	results := append(repSpans("the result's", one), msgSpans("its", oneSent)...)
	results = append(results, repSpans("the second result's", two)...)
	results = append(results, msgSpans("the second's", twoSent)...)
	if wrong := overlap(results, args); wrong != "" {
		t.Fatalf("%v, %v: %s share memory", one, oneSent, wrong)
	}
}

func TestReplicasShareNoMemory(t *testing.T) {
	for _, r := range memoryReps(t) {
		r, _ = spareRep(r)
		args := repSpans("the argument's", r)
		for _, m := range someMsgs(r) {
			m.Votes, _ = spare(m.Votes)
			all := append(slices.Clone(args), spanOf("the message's votes", m.Votes))
			for from := range r.N {
				wantOwnMemory(t, all, func() (impl.Rep, []impl.Msg) { return impl.RepHear(r, from, m) })
			}
		}
		wantOwnMemory(t, args, func() (impl.Rep, []impl.Msg) { return impl.RepTick(r) })
		wantOwnMemory(t, args, func() (impl.Rep, []impl.Msg) {
			m, _ := impl.ReportOf(r, 9)
			return impl.Rep{}, []impl.Msg{m}
		})
	}
	for id := range 4 {
		wantOwnMemory(t, nil, func() (impl.Rep, []impl.Msg) {
			r, sent, _ := impl.RepNew(4, id, 9)
			return r, sent
		})
	}
}

// The parts of a result are apart even if those of the argument are not.
func TestSharedPartsAreParted(t *testing.T) {
	voted := votes(0, 5, 1, 6)
	shared := tally(0, 0, 5, 1, 0, 5)
	reports := []impl.Report{{From: 0, Votes: voted}, {From: 3, Votes: voted}}
	r := idle(4, 1, 2)
	r.Left = 1
	r.Voted, r.Props, r.Votes, r.Readies, r.Dones = voted, shared, shared, shared, impl.Tally{L: shared.L[:1]}
	r.Heard = []impl.Heard{{View: 2, L: reports}, {View: 4, L: reports[:1]}}
	args := append(repSpans("the argument's", r), spanOf("votes", voted))
	wantOwnMemory(t, args, func() (impl.Rep, []impl.Msg) { return impl.RepTick(r) })
	wantOwnMemory(t, args, func() (impl.Rep, []impl.Msg) {
		return impl.RepHear(r, 2, impl.Msg{Kind: impl.MsReport, View: 4, Votes: voted})
	})
}

func TestListsOfReplicasShareNoMemory(t *testing.T) {
	for k, call := range []func() []byte{
		func() []byte { return impl.RepText(busy()) },
		func() []byte { return impl.RepText(idle(4, 0, 0)) },
	} {
		first := call()
		want := slices.Clone(first)
		scribble(first, 88)
		if second := call(); !slices.Equal(second, want) {
			t.Error(k, second, want)
		}
	}
	r := busy()
	first := impl.HeardFrom(r, 2)
	second := impl.HeardFrom(r, 2)
	scribble(first, 88)
	if third := impl.HeardFrom(r, 2); !slices.Equal(second, []int{0, 1, 3}) || !slices.Equal(third, second) {
		t.Error(second, third)
	}
}

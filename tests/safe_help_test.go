package tests

import (
	"math"
	"slices"
	"strconv"
	"testing"

	"loop.example/g00567/impl"
)

var noLock impl.Vote

func lockOn(view, val int) impl.Vote { return impl.Vote{View: view, Val: val} }

// reported is a report of the replica from, with votes as pairs of view and val.
func reported(from int, lock impl.Vote, pairs ...int) impl.Report {
	return impl.Report{From: from, Lock: lock, Votes: votes(pairs...)}
}

// exampleReports is the document's example, for view 2 in a cluster of 4.
func exampleReports() []impl.Report {
	return []impl.Report{
		reported(0, lockOn(1, 5), 0, 2, 1, 5),
		reported(1, noLock, 1, 5),
		reported(3, lockOn(0, 2), 0, 2),
	}
}

func sameReport(a, b impl.Report) bool {
	return a.From == b.From && a.Lock == b.Lock && slices.Equal(a.Votes, b.Votes)
}

func sameReports(a, b []impl.Report) bool { return slices.EqualFunc(a, b, sameReport) }

func wantReports(t *testing.T, got []impl.Report, ok bool, want []impl.Report, wantOk bool) {
	t.Helper()
	if ok != wantOk || !sameReports(got, want) {
		t.Errorf("got %v %v, want %v %v", got, ok, want, wantOk)
	}
}

// A listing is a valid list of reports with its cluster's size and its view.
type listing struct {
	n, view int
	l       []impl.Report
}

// recurrence returns a function for numbers below its argument, always the same ones.
func recurrence() func(int) int {
	x := uint32(1)
	return func(n int) int {
		x = x*1664525 + 1013904223
		return int(x>>16) % n
	}
}

// mixedReport votes and locks on few values, so that some of them are often witnessed.
func mixedReport(next func(int) int, from, view, kinds int) impl.Report {
	vals := []int{60, 9, 1, 30}
	r := reported(from, noLock)
	if next(3) != 0 {
		r.Lock = lockOn(next(view), vals[next(kinds)])
	}
	for v := range view {
		if next(3) != 0 {
			r.Votes = append(r.Votes, impl.Vote{View: v, Val: vals[next(kinds)]})
		}
	}
	return r
}

// mixedListings returns lists for every view in clusters of both sizes.
func mixedListings() []listing {
	var all []listing
	next := recurrence()
	for i := range 60 {
		for _, n := range []int{4, 7} {
			for view := 1; view <= 9; view++ {
				x := listing{n: n, view: view}
				for from := range n {
					if i%4 == 0 || next(5) != 0 {
						x.l = append(x.l, mixedReport(next, from, view, 1+i%4))
					}
				}
				all = append(all, x)
			}
		}
	}
	return all
}

// smallListings returns every list for view 1 of reports that vote for, and lock, nothing, 1 or 2 (of 7 replicas with fewer of these).
func smallListings() []listing {
	var all []listing
	list := func(n int, kinds []int) {
		assignments(n, len(kinds), func(of []int) {
			x := listing{n: n, view: 1}
			for from, k := range of {
				if k > 0 {
					x.l = append(x.l, smallReport(from, kinds[k-1]))
				}
			}
			all = append(all, x)
		})
	}
	list(4, []int{0, 1, 2, 3, 4, 5, 6, 7, 8})
	list(7, []int{1, 8})
	return all
}

// smallReport has the kind 3*lock + vote, where 0 is none.
func smallReport(from, kind int) impl.Report {
	r := reported(from, noLock)
	if kind/3 > 0 {
		r.Lock = lockOn(0, kind/3)
	}
	if kind%3 > 0 {
		r.Votes = votes(0, kind%3)
	}
	return r
}

func validListings() []listing {
	all := []listing{{4, 2, exampleReports()}, {4, 1, nil}, {7, 9, nil}, {4, 9, []impl.Report{}}}
	for _, n := range []int{4, 7} {
		for _, from := range []int{0, n - 1} {
			for _, view := range []int{1, 9} {
				all = append(all,
					listing{n, view, []impl.Report{reported(from, noLock)}},
					listing{n, view, []impl.Report{reported(from, lockOn(0, 1), view-1, 60)}},
					listing{n, view, []impl.Report{reported(from, lockOn(view-1, 60), 0, 1)}},
				)
			}
		}
	}
	all = append(all, mixedListings()...)
	return append(all, smallListings()...)
}

// invalidReports returns reports for view 3 in a cluster of 4 that are each wrong in one place, by what is wrong.
func invalidReports() map[string]impl.Report {
	all := map[string]impl.Report{
		"lock at the view":      reported(2, lockOn(3, 5), 1, 5),
		"lock beyond the view":  reported(2, lockOn(4, 5), 1, 5),
		"lock in view -1":       reported(2, lockOn(-1, 5), 1, 5),
		"lock in view 10":       reported(2, lockOn(10, 5), 1, 5),
		"lock on 0":             reported(2, lockOn(1, 0), 1, 5),
		"lock on 61":            reported(2, lockOn(1, 61), 1, 5),
		"lock on -1 in view 0":  reported(2, lockOn(0, -1), 1, 5),
		"vote at the view":      reported(2, noLock, 1, 5, 3, 5),
		"vote beyond the view":  reported(2, noLock, 1, 5, 9, 5),
		"vote in view -1":       reported(2, noLock, -1, 5, 1, 5),
		"vote for 0":            reported(2, noLock, 1, 5, 2, 0),
		"vote for 61":           reported(2, noLock, 0, 61, 1, 5),
		"two votes in one view": reported(2, noLock, 1, 5, 1, 6),
		"two equal votes":       reported(2, noLock, 1, 5, 1, 5),
		"votes out of order":    reported(2, noLock, 1, 5, 0, 5),
		"257 votes":             {From: 2, Votes: make([]impl.Vote, 257)},
	}
	for _, from := range []int{math.MinInt, -4, -1, 4, 5, 6, 7, 256 + 2, math.MaxInt} {
		all["from "+strconv.Itoa(from)] = reported(from, noLock, 1, 5)
	}
	return all
}

func unboundReports(froms ...int) []impl.Report {
	var l []impl.Report
	for _, from := range froms {
		l = append(l, reported(from, noLock))
	}
	return l
}

// soundReports is valid for the views 3 .. 9 in a cluster of 4, where 5 is safe by it.
func soundReports() []impl.Report {
	return []impl.Report{
		reported(0, lockOn(1, 5), 1, 5),
		reported(1, noLock, 1, 5),
		reported(3, lockOn(1, 5), 0, 7, 1, 5),
	}
}

// invalidListings returns arguments that are each wrong in one place, by what is wrong.
func invalidListings() map[string]listing {
	all := map[string]listing{
		"a repeated report":          {4, 3, append(soundReports(), soundReports()[2])},
		"a second report of one":     {4, 3, append(soundReports(), reported(3, noLock))},
		"first two equal":            {4, 3, append(soundReports()[:1], soundReports()...)},
		"out of order":               {4, 3, []impl.Report{soundReports()[0], soundReports()[2], soundReports()[1]}},
		"first two out of order":     {4, 3, []impl.Report{soundReports()[1], soundReports()[0], soundReports()[2]}},
		"the other way":              {7, 3, unboundReports(6, 4, 3, 1, 0)},
		"all unbound, last repeated": {4, 3, unboundReports(0, 1, 2, 2)},
		"a million zero reports":     {4, 3, make([]impl.Report, 1<<20)},
		"from 7 of 7":                {7, 3, append(soundReports(), reported(7, noLock))},
		"lock at view 1":             {4, 1, append(unboundReports(0, 1, 2), reported(3, lockOn(1, 5)))},
		"vote at view 1":             {4, 1, append(unboundReports(0, 1, 2), reported(3, noLock, 1, 5))},
		"vote at view 9":             {4, 9, append(soundReports()[:2], reported(3, noLock, 9, 5))},
		"lock at view 9":             {4, 9, append(soundReports()[:2], reported(3, lockOn(9, 5)))},
	}
	for name, r := range invalidReports() {
		for at := range 4 {
			all[name+" before "+strconv.Itoa(at)] = listing{4, 3, slices.Insert(soundReports(), at, r)}
			all[name+" before "+strconv.Itoa(at)+", unbound"] = listing{4, 3, slices.Insert(unboundReports(0, 1, 3), at, r)}
		}
	}
	for _, n := range otherSizes {
		all["in a cluster of "+strconv.Itoa(n)] = listing{n, 3, soundReports()}
		all["nothing in a cluster of "+strconv.Itoa(n)] = listing{n, 3, nil}
	}
	for _, view := range []int{math.MinInt, -1, 0, 10, 11, 256 + 3, math.MaxInt} {
		all["for view "+strconv.Itoa(view)] = listing{4, view, soundReports()}
		all["nothing for view "+strconv.Itoa(view)] = listing{7, view, nil}
		all["unbound for view "+strconv.Itoa(view)] = listing{4, view, unboundReports(0, 1, 2)}
	}
	return all
}

// weakOf and strongOf are the sizes of the quorums, written out.
func weakOf(n int) int { return map[int]int{4: 2, 7: 3}[n] }

func strongOf(n int) int { return map[int]int{4: 3, 7: 5}[n] }

// lastVotes returns, descending, the view of the last vote for val of each report that has one.
func (x listing) lastVotes(val int) []int {
	var l []int
	for _, r := range x.l {
		last := -1
		for _, v := range r.Votes {
			if v.Val == val {
				last = v.View
			}
		}
		if last >= 0 {
			l = append(l, last)
		}
	}
	slices.Sort(l)
	slices.Reverse(l)
	return l
}

func (x listing) witnesses(val, from int) int {
	n := 0
	for _, last := range x.lastVotes(val) {
		if last >= from {
			n++
		}
	}
	return n
}

// grounds is the last view up to which a weak quorum still has a vote for val to come.
func (x listing) grounds(val int) int {
	if l := x.lastVotes(val); len(l) >= weakOf(x.n) {
		return l[weakOf(x.n)-1]
	}
	return -1
}

func (x listing) unbound() int {
	n := 0
	for _, r := range x.l {
		if r.Lock.Val == 0 {
			n++
		}
	}
	return n
}

func (x listing) free() bool { return x.unbound() >= strongOf(x.n) }

func (x listing) supports(val int) int {
	if val < 1 || val > 60 {
		return -1
	}
	n := x.unbound()
	grounds := x.grounds(val)
	for _, r := range x.l {
		if r.Lock.Val != 0 && grounds >= 0 && (r.Lock.Val == val || r.Lock.View < grounds) {
			n++
		}
	}
	return n
}

func (x listing) safe(val int) bool {
	if val < 1 || val > 60 {
		return false
	}
	return x.free() || x.grounds(val) >= 0 && x.supports(val) >= strongOf(x.n)
}

func (x listing) safeVals() []int {
	var l []int
	for val := 1; val <= 60; val++ {
		if x.safe(val) {
			l = append(l, val)
		}
	}
	return l
}

func (x listing) choose(own int) (int, bool) {
	if own < 1 || own > 60 {
		return 0, false
	}
	if x.free() {
		return own, true
	}
	for grounds := x.view - 1; grounds >= 0; grounds-- {
		for val := 1; val <= 60; val++ {
			if x.grounds(val) == grounds && x.safe(val) {
				return val, true
			}
		}
	}
	return 0, false
}

// absent returns the replicas that have no report in x.
func (x listing) absent() []int {
	var l []int
	for from := range x.n {
		if !slices.ContainsFunc(x.l, func(r impl.Report) bool { return r.From == from }) {
			l = append(l, from)
		}
	}
	return l
}

// spareReports returns l with room behind it and behind its votes, and what tells whether any of that was written.
func spareReports(l []impl.Report) ([]impl.Report, func() bool) {
	all := make([]impl.Report, len(l)+8)
	var rooms, kept [][]impl.Vote
	for i := range all {
		all[i] = reported(70+i, lockOn(71, 72+i), 73, 74)
		if i < len(l) {
			all[i] = l[i]
		}
		var room []impl.Vote
		all[i].Votes, room = spare(all[i].Votes)
		rooms = append(rooms, room)
		kept = append(kept, slices.Clone(room))
	}
	before := slices.Clone(all)
	same := func(a, b impl.Report) bool { return sameReport(a, b) && cap(a.Votes) == cap(b.Votes) }
	return all[:len(l)], func() bool {
		return slices.EqualFunc(all, before, same) && slices.EqualFunc(rooms, kept, slices.Equal[[]impl.Vote])
	}
}

// scribbleReports overwrites a result, its votes, and the memory behind them.
func scribbleReports(l []impl.Report) {
	for i := range l {
		scribble(l[i].Votes, lockOn(88, 88))
	}
	scribble(l, reported(88, lockOn(88, 88), 88, 88))
}

// wantApart checks that no list of votes, nor the room behind it, is part of another.
func wantApart(t *testing.T, l []impl.Report) {
	t.Helper()
	for i := range l {
		before := cloneReports(l)
		scribble(l[i].Votes, lockOn(88, 88+i))
		for k := range l {
			if k != i && !sameReport(l[k], before[k]) {
				t.Fatalf("the votes of %v and %v share memory", before[i], before[k])
			}
		}
	}
}

func cloneReports(l []impl.Report) []impl.Report {
	l = slices.Clone(l)
	for i := range l {
		l[i].Votes = slices.Clone(l[i].Votes)
	}
	return l
}

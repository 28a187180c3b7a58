package tests

import (
	"math"
	"math/bits"
	"slices"
	"testing"

	"loop.example/g00567/impl"
)

var (
	someViews  = []int{math.MinInt, -1, 0, 1, 2, 5, 8, 9, 10, 256, math.MaxInt}
	someVals   = []int{math.MinInt, -1, 0, 1, 2, 3, 9, 30, 59, 60, 61, 256, math.MaxInt}
	someFroms  = []int{math.MinInt, -1, 0, 1, 2, 3, 4, 5, 6, 7, 256, math.MaxInt}
	otherSizes = []int{math.MinInt, -7, -4, -1, 0, 1, 2, 3, 5, 6, 8, 9, 10, 11, 14, 256 + 4, math.MaxInt}
)

func ballot(from, view, val int) impl.Ballot {
	return impl.Ballot{From: from, View: view, Val: val}
}

// tally lists the ballots as they are given: from, view and val of one after another.
func tally(triples ...int) impl.Tally {
	var t impl.Tally
	for i := 0; i < len(triples); i += 3 {
		t.L = append(t.L, ballot(triples[i], triples[i+1], triples[i+2]))
	}
	return t
}

// viewTally has one ballot of the view for each sender whose value is not 0.
func viewTally(view int, vals ...int) impl.Tally {
	var t impl.Tally
	for from, val := range vals {
		if val != 0 {
			t.L = append(t.L, ballot(from, view, val))
		}
	}
	return t
}

func sameTally(a, b impl.Tally) bool { return slices.Equal(a.L, b.L) }

func fullTally() impl.Tally {
	var t impl.Tally
	for view := 0; view <= 9; view++ {
		for from := 0; from <= 6; from++ {
			t.L = append(t.L, ballot(from, view, 1+(view*7+from*11)%60))
		}
	}
	return t
}

// assignments calls check with every list of n numbers in 0 .. most.
func assignments(n, most int, check func([]int)) {
	l := make([]int, n)
	for {
		check(slices.Clone(l))
		at := 0
		for at < n && l[at] == most {
			l[at] = 0
			at++
		}
		if at == n {
			return
		}
		l[at]++
	}
}

// mixedTallies returns tallies of several views, spread by a simple recurrence.
func mixedTallies() []impl.Tally {
	var l []impl.Tally
	x := uint32(1)
	next := func(n uint32) int {
		x = x*1664525 + 1013904223
		return int(x >> 16 % n)
	}
	for len(l) < 200 {
		var t impl.Tally
		kinds := uint32(1 + len(l)%4)
		for view := 0; view <= 9; view++ {
			for from := 0; from <= 6; from++ {
				if next(3) != 0 {
					t.L = append(t.L, ballot(from, view, []int{60, 1, 9, 30}[next(kinds)]))
				}
			}
		}
		l = append(l, t)
	}
	return l
}

func validTallies() []impl.Tally {
	l := []impl.Tally{{}, {L: []impl.Ballot{}}, fullTally()}
	for _, from := range []int{0, 6} {
		for _, view := range []int{0, 9} {
			for _, val := range []int{1, 60} {
				l = append(l, tally(from, view, val))
			}
		}
	}
	for _, view := range []int{0, 9} {
		assignments(5, 2, func(vals []int) {
			l = append(l, viewTally(view, vals...))
		})
	}
	assignments(7, 2, func(vals []int) {
		l = append(l, viewTally(5, vals...))
	})
	return append(l, mixedTallies()...)
}

// invalidBallots returns ballots that are each wrong in one place, by what is wrong.
func invalidBallots() map[string]impl.Ballot {
	return map[string]impl.Ballot{
		"from -1":       ballot(-1, 2, 9),
		"from 7":        ballot(7, 2, 9),
		"from 256":      ballot(256, 2, 9),
		"least from":    ballot(math.MinInt, 2, 9),
		"greatest from": ballot(math.MaxInt, 2, 9),
		"view -1":       ballot(3, -1, 9),
		"view 10":       ballot(3, 10, 9),
		"view 256":      ballot(3, 256, 9),
		"least view":    ballot(3, math.MinInt, 9),
		"greatest view": ballot(3, math.MaxInt, 9),
		"val 0":         ballot(3, 2, 0),
		"val -1":        ballot(3, 2, -1),
		"val 61":        ballot(3, 2, 61),
		"val 257":       ballot(3, 2, 257),
		"least val":     ballot(3, 2, math.MinInt),
		"greatest val":  ballot(3, 2, math.MaxInt),
		"zero ballot":   {},
	}
}

// invalidTallies returns tallies with enough ballots for 9 in view 2 that are each wrong in one place, by what is wrong.
func invalidTallies() map[string]impl.Tally {
	l := map[string]impl.Tally{
		"a repeated ballot":          tally(0, 2, 9, 1, 2, 9, 2, 2, 9, 2, 2, 9, 3, 2, 9, 4, 2, 9),
		"a second value of a sender": tally(0, 2, 9, 1, 2, 9, 2, 2, 9, 3, 2, 9, 4, 2, 9, 4, 2, 8),
		"senders out of order":       tally(0, 2, 9, 1, 2, 9, 2, 2, 9, 4, 2, 9, 3, 2, 9),
		"first two out of order":     tally(1, 2, 9, 0, 2, 9, 2, 2, 9, 3, 2, 9, 4, 2, 9),
		"views out of order":         tally(0, 2, 9, 1, 2, 9, 2, 2, 9, 3, 2, 9, 4, 2, 9, 6, 1, 9),
		"ordered by sender first":    tally(0, 2, 9, 0, 3, 9, 1, 2, 9, 2, 2, 9, 3, 2, 9, 4, 2, 9),
		"ordered the other way":      tally(4, 2, 9, 3, 2, 9, 2, 2, 9, 1, 2, 9, 0, 2, 9),
		"a million zero ballots":     {L: make([]impl.Ballot, 1<<20)},
	}
	good := tally(0, 2, 9, 1, 2, 9, 2, 2, 9, 4, 2, 9, 5, 2, 9)
	for name, b := range invalidBallots() {
		for at := range len(good.L) + 1 {
			l[name+" before "+string(rune('0'+at))] = impl.Tally{L: slices.Insert(slices.Clone(good.L), at, b)}
		}
	}
	return l
}

// countIn, silentIn and winnerIn count the ballots one by one.
func countIn(t impl.Tally, view, val int) int {
	n := 0
	for _, b := range t.L {
		if b.View == view && b.Val == val {
			n++
		}
	}
	return n
}

func silentIn(n int, t impl.Tally, view int) []int {
	var l []int
	for from := 0; from < n; from++ {
		if !slices.ContainsFunc(t.L, func(b impl.Ballot) bool { return b.From == from && b.View == view }) {
			l = append(l, from)
		}
	}
	return l
}

func winnerIn(t impl.Tally, view, need int) (int, bool) {
	for val := 1; val <= 60; val++ {
		if need >= 1 && countIn(t, view, val) >= need {
			return val, true
		}
	}
	return 0, false
}

// sets returns the sets of at least size of the numbers below n, as bits.
func sets(n, size int) []uint {
	var l []uint
	for set := range uint(1) << n {
		if bits.OnesCount(set) >= size {
			l = append(l, set)
		}
	}
	return l
}

// setTally has ballots for val in view of the senders in the set.
func setTally(set uint, view, val int) impl.Tally {
	var t impl.Tally
	for from := range 7 {
		if set>>from&1 == 1 {
			t.L = append(t.L, ballot(from, view, val))
		}
	}
	return t
}

// spareTally returns t with room behind its ballots, and the whole of the memory.
func spareTally(t impl.Tally) (impl.Tally, []impl.Ballot) {
	all := make([]impl.Ballot, len(t.L)+8)
	copy(all, t.L)
	for i := len(t.L); i < len(all); i++ {
		all[i] = ballot(77, 78, 79+i)
	}
	return impl.Tally{L: all[:len(t.L)]}, all
}

func wantTally(t *testing.T, got impl.Tally, ok bool, want impl.Tally, wantOk bool) {
	t.Helper()
	if ok != wantOk || !sameTally(got, want) {
		t.Errorf("got %v %v, want %v %v", got, ok, want, wantOk)
	}
}

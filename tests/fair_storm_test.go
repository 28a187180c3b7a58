package tests

import (
	"slices"
	"strconv"
	"testing"

	"loop.example/g00567/impl"
)

// schedule checks what a schedule leads to now; the storm goes on from there if it is to stay.
func (s *storm) schedule(stay bool, run func(impl.Cluster) (impl.Cluster, int)) int {
	s.t.Helper()
	got, n := run(s.c)
	wantAgreement(s.t, got)
	if stay {
		s.c, s.w = got, worldOf(got)
	}
	return n
}

func (s *storm) flush(stay bool) {
	s.t.Helper()
	decided := impl.Decided(s.c)
	n := s.schedule(stay, func(c impl.Cluster) (impl.Cluster, int) {
		got, n := wantFlush(s.t, c)
		s.see("flush decides", impl.Decided(got) > decided)
		s.see("flush decides partly", impl.Decided(got) > 0 && impl.Decided(got) < len(impl.Honest(got)))
		return got, n
	})
	s.see("flush", true)
	s.see("flush of nothing", n == 0)
}

func (s *storm) fair(stay bool, rounds int) {
	s.t.Helper()
	decided := impl.Decided(s.c)
	n := s.schedule(stay, func(c impl.Cluster) (impl.Cluster, int) {
		got, n := wantFair(s.t, c, rounds)
		s.see("fair decides", impl.Decided(got) > decided)
		return got, n
	})
	s.see("fair stops at once", n == 0)
	s.see("fair stops later", n > 0)
	s.see("fair does not stop", n == -1)
	s.see("fair after a decision", decided > 0)
}

// Whatever happened before, and whatever happens after, schedules decide nothing else.
func TestStormsWithSchedules(t *testing.T) {
	t.Parallel()
	next, seen := recurrence(), map[string]int{}
	for i := range 40 {
		for _, n := range []int{4, 7} {
			for count := 0; count < weakOf(n); count++ {
				faulty := []int{i % n, (i%n + 1 + i/n%(n-1)) % n}[:count]
				s := newStorm(t, next, seen, n, faulty...)
				for range 45 * n {
					s.anything()
					switch next(50) {
					case 0:
						s.flush(next(8) == 0)
					case 1:
						s.fair(next(8) == 0, next(4))
					}
				}
				s.fair(false, 0)
				s.flush(i%2 == 0)
				s.fair(true, 60)
				for range 5 * n {
					s.anything()
				}
				s.wantCounts()
			}
		}
	}
	t.Log(seen)
	wantSeen(t, seen, 100, "flush", "fair after a decision", "fair does not stop", "fair stops at once")
	wantSeen(t, seen, 50, "flush of nothing", "flush decides", "fair decides", "fair stops later")
	wantSeen(t, seen, 5, "flush decides partly")
}

// Messages are duplicated until links are full, so that schedules lose some.
func TestSchedulesWithFullLinks(t *testing.T) {
	t.Parallel()
	seen := map[string]int{}
	for _, n := range []int{4, 7} {
		for _, faulty := range [][]int{nil, {0}, {2}} {
			s := newStorm(t, recurrence(), seen, n, faulty...)
			for _, at := range linksOf(n) {
				if s.c.Bad[at[0]] {
					s.lies(at[0], at[1], proposing(at[0], 10+at[1]))
				} else {
					s.ticksInto(1, at[0])
				}
				for len(onLink(s.c, at[0], at[1])) < 80 && (n == 4 || at[0] < 3) {
					s.step(deed{"twice", at[0], at[1], nil})
				}
			}
			s.fair(false, 1)
			s.flush(true)
			s.fair(true, 60)
		}
	}
	wantSeen(t, seen, 1, "flush", "fair decides")
}

// A calm is a storm in which nothing is lost and the faulty are silent. With more haste there are more ticks.
func (s *storm) calm(haste int) {
	s.t.Helper()
	from, to := s.somewhere()
	switch k := s.next(20 + haste); {
	case k < 14:
		s.step(deed{"deliver", from, to, nil})
	case k < 19:
		s.step(deed{"later", from, to, nil})
	case k < 20:
		s.step(deed{"twice", from, to, nil})
	default:
		s.step(deed{"tick", from, 0, nil})
	}
}

// together brings the undecided into the latest view, and delivers everything.
func (s *storm) together() (int, bool) {
	s.t.Helper()
	to := impl.Latest(s.c)
	for _, id := range impl.Honest(s.c) {
		if s.c.Reps[id].Done == 0 {
			s.ticksInto(to, id)
		}
	}
	s.flush(true)
	return inOneView(s.c)
}

// However the honest come into a view, if nothing is lost, they decide from there.
func TestFairAfterACalm(t *testing.T) {
	t.Parallel()
	next, seen := recurrence(), map[string]int{}
	for i := range 70 {
		for _, n := range []int{4, 7} {
			for _, faulty := range [][]int{nil, {i % n}, {i % n, (i%n + 1 + i/n%(n-1)) % n}}[:weakOf(n)] {
				s := newStorm(t, next, seen, n, faulty...)
				haste := next(100)
				for range 8 + next(14*n) {
					s.calm(haste)
				}
				view, ok := s.together()
				s.see("apart", !ok)
				if seen["lost"] > 0 {
					t.Fatal(s.c, "something was lost")
				}
				if !ok || view > 4 {
					continue
				}
				s.see("together in view "+strconv.Itoa(view), true)
				s.see("together and undecided", impl.Decided(s.c) == 0)
				got, count := wantFair(t, s.c, 60)
				if count == -1 || impl.Decided(got) != n-len(faulty) {
					t.Fatal(s.c, view, count, got)
				}
				wantAgreement(t, got)
				val, _ := impl.Verdict(got)
				if from := val - 10; from < 0 || from >= n || slices.Contains(faulty, from) {
					t.Fatal(got, "decided", val)
				}
			}
		}
	}
	t.Log(seen)
	wantSeen(t, seen, 10, "together in view 0", "together in view 1", "together in view 2", "together in view 3", "together and undecided")
}

// A decision of one replica alone is kept under schedules too, whatever the faulty have said since.
func TestSchedulesAgainstADecision(t *testing.T) {
	for _, x := range []struct {
		n                   int
		liars, fives, sixes []int
	}{
		{4, []int{0}, []int{1, 2}, []int{3}},
		{7, []int{0, 6}, []int{1, 2, 3}, []int{4, 5}},
	} {
		for _, m := range falseReports(x.n) {
			s := parted(t, x.n, x.liars, x.fives, x.sixes)
			for to := range x.n {
				for _, from := range x.liars {
					if from != to {
						s.lies(from, to, proposing(x.n, 6), m, voting(x.n, 6), readying(x.n, 6), deciding(6))
					}
				}
			}
			s.flush(false)
			s.fair(false, 2)
			s.fair(true, 60)
			if val, ok := impl.Verdict(s.c); !ok || val != 5 || impl.Decided(s.c) != x.n-len(x.liars) {
				t.Error(m, val, s.c)
			}
		}
	}
}

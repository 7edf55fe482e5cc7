package fleet

import (
	"slices"
	"testing"

	"yearbook/api"
)

// threeWindows have a border that two share, and a gap.
func threeWindows() [][2]int { return [][2]int{{0, 10}, {10, 20}, {25, 30}} }

// eightWindows are MaxShards of them, from the first time to the last one, one
// of them as short as it may be.
func eightWindows() [][2]int {
	return [][2]int{{0, 1}, {1, 5}, {6, 10}, {10, 20}, {20, 300}, {999, 1000}, {5000, 999999}, {999999, 1000000}}
}

// windowsOf answers n windows between which there is room.
func windowsOf(n int) [][2]int {
	var l [][2]int
	for i := range n {
		l = append(l, [2]int{100 * i, 100*i + 50})
	}
	return l
}

// areWrong holds that Wrong and Play tell that fault, and Play nothing beside.
func areWrong(t *testing.T, l [][2]int, err api.Errno, at int) {
	t.Helper()
	asked := api.Fault{Err: err, At: at}
	if f := Wrong(l); f != asked {
		t.Errorf("%v: %v comes, not %v", l, f, asked)
	}
	for _, n := range []int{0, 1, 120, 121} {
		f, a, fault := Play(l, make([]api.Do, n))
		if f.Shards != nil || f.Book != nil || a != nil || fault != asked {
			t.Errorf("%v: %v, %v and %v come, not %v", l, f, a, fault, asked)
		}
	}
}

// G1: windows with which nothing is wrong, and the shards that come of them.
func TestRightWindows(t *testing.T) {
	all := [][][2]int{nil, {}, {{0, 1}}, {{0, 1000000}}, {{999999, 1000000}}, {{0, 5}, {5, 9}}, {{0, 5}, {6, 9}}, threeWindows()}
	for n := range 9 {
		all = append(all, windowsOf(n), eightWindows()[:n], eightWindows()[8-n:])
	}
	for _, l := range all {
		if f := Wrong(l); f != (api.Fault{}) {
			t.Errorf("%v: %v comes", l, f)
		}
		f, a, fault := Play(l, nil)
		var shards []api.Shard
		for _, w := range l {
			shards = append(shards, api.Shard{From: w[0], To: w[1], State: 1})
		}
		want(t, "nothing done", f, api.Fleet{Shards: shards})
		if len(a) != 0 || fault != (api.Fault{}) {
			t.Errorf("%v: %v and %v come", l, a, fault)
		}
	}
}

// G1: more than MaxShards windows, whatever is wrong with them.
func TestTooManyWindows(t *testing.T) {
	for _, n := range []int{9, 10, 16, 255, 256, 1000} {
		areWrong(t, windowsOf(n), api.ErrMany, 0)
		areWrong(t, make([][2]int, n), api.ErrMany, 0)
		areWrong(t, slices.Repeat([][2]int{{0, 5}}, n), api.ErrMany, 0)
	}
}

// wrongTimes are windows of which a time is too small, or too great.
func wrongTimes() [][2]int {
	return [][2]int{
		{-1, 0}, {-1, 5}, {-2, -1}, {least, 5}, {least, least}, {least, most},
		{0, 0}, {5, 5}, {6, 5}, {5, 4}, {5, 0}, {5, -1}, {5, least}, {1000000, 1000000}, {1000000, 999999}, {most, 5},
		{0, 1000001}, {999999, 1000001}, {1000000, 1000001}, {1000001, 1000002}, {0, most}, {most - 1, most}, {most, most},
	}
}

// G1: a window with a wrong time, wherever it stands.
func TestWrongTimes(t *testing.T) {
	for n := 1; n <= 8; n++ {
		for at := range n {
			for _, w := range wrongTimes() {
				l := windowsOf(n)
				l[at] = w
				areWrong(t, l, api.ErrRange, at)
			}
		}
	}
}

// G1: the one ahead ends behind where a window begins: by one, by all, or far.
func TestWindowsOverlap(t *testing.T) {
	for n := 2; n <= 8; n++ {
		for at := 1; at < n; at++ {
			for _, back := range []int{1, 2, 49, 50} {
				l := windowsOf(n)
				l[at][0] = l[at-1][1] - back
				areWrong(t, l, api.ErrFit, at)
			}
			l := windowsOf(n)
			l[at] = l[at-1]
			areWrong(t, l, api.ErrFit, at)
			l = windowsOf(n)
			l[at], l[at-1] = l[at-1], l[at]
			areWrong(t, l, api.ErrFit, at)
		}
	}
	areWrong(t, [][2]int{{0, 1000000}, {999999, 1000000}}, api.ErrFit, 1)
	areWrong(t, [][2]int{{10, 20}, {0, 5}}, api.ErrFit, 1)
	areWrong(t, [][2]int{{10, 20}, {0, 10}}, api.ErrFit, 1)
}

// G1: the first window that is wrong is told, and its times ahead of the one
// ahead of it.
func TestFirstWrongWindow(t *testing.T) {
	areWrong(t, [][2]int{{0, 10}, {9, 9}}, api.ErrRange, 1)
	areWrong(t, [][2]int{{0, 10}, {-1, 20}}, api.ErrRange, 1)
	areWrong(t, [][2]int{{0, 10}, {5, 1000001}}, api.ErrRange, 1)
	areWrong(t, [][2]int{{5, 5}, {4, 9}}, api.ErrRange, 0)
	areWrong(t, [][2]int{{0, 1000001}, {4, 9}}, api.ErrRange, 0)
	areWrong(t, [][2]int{{0, 5}, {4, 9}, {9, 9}}, api.ErrFit, 1)
	areWrong(t, [][2]int{{0, 5}, {9, 9}, {4, 9}}, api.ErrRange, 1)
	areWrong(t, [][2]int{{0, 5}, {4, 9}, {8, 12}}, api.ErrFit, 1)
}

// G1: MaxDo things are done, one more are not.
func TestTooMuchDone(t *testing.T) {
	for _, windows := range [][][2]int{nil, threeWindows(), eightWindows()} {
		for _, n := range []int{0, 1, 119, 120} {
			play(t, windows, make([]api.Do, n)...)
			play(t, windows, slices.Repeat([]api.Do{put(5, "x")}, n)...)
		}
		for _, n := range []int{121, 122, 240, 256, 5000} {
			for _, l := range [][]api.Do{make([]api.Do, n), slices.Repeat([]api.Do{put(5, "x")}, n)} {
				f, a, fault := Play(windows, l)
				if f.Shards != nil || f.Book != nil || a != nil || fault != (api.Fault{Err: api.ErrMany}) {
					t.Errorf("%d things done: %v, %v and %v come", n, f, a, fault)
				}
			}
		}
	}
}

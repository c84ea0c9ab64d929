package sorter_test

import (
	"runtime"
	"slices"
	"strings"
	"sync"
	"testing"
	"time"

	"strata/api"
	"strata/sorter"
)

// atWork are the goroutines that are in the sorter's code now; the test's own is not, behind a call.
func atWork() []string {
	text := make([]byte, 1<<20)
	text = text[:runtime.Stack(text, true)]
	var l []string
	for _, one := range strings.Split(string(text), "\n\n") {
		for _, line := range strings.Split(one, "\n") {
			if strings.HasPrefix(line, "strata/sorter.") {
				l = append(l, one)
				break
			}
		}
	}
	return l
}

// TestWorkersHaveEnded: behind each call, refused or not, no goroutine is at work, and none stays.
func TestWorkersHaveEnded(t *testing.T) {
	r := dice(2)
	list := r.list(4000, 1<<20)
	was := holds(t, 1024, api.KindRaw, list, model(plain, false, list[:50]))
	ahead := runtime.NumGoroutine()
	for i := range 40 {
		troubles := []api.Trouble{{At: 13 * i, Kind: 1 + i%2}}
		if i%4 == 3 {
			troubles = nil
		}
		for _, c := range []call{{false, inputs(1), "out", api.KindRaw, plain, i%3 == 0, 124 * (1 + i)}, {true, []string{"in1", "in1"}, "out", api.KindRaw, plain, false, 124}} {
			b := mount(t, was, c.share, troubles...)
			c.do(b.Desk)
			if l := atWork(); len(l) > 0 {
				t.Fatalf("%+v: behind the call there is at work:\n%s", c, l[0])
			}
		}
	}
	for wait := 0; runtime.NumGoroutine() > ahead; wait++ { // one that has done its work may take a moment to be gone
		if wait == 1000 {
			t.Fatalf("%d goroutines are left", runtime.NumGoroutine()-ahead)
		}
		time.Sleep(time.Millisecond)
	}
}

// TestSortsBesideOneAnother: sorts over disks of their own share nothing.
func TestSortsBesideOneAnother(t *testing.T) {
	r := dice(6)
	list := r.list(900, 1<<20)
	want := slices.Clone(list)
	slices.SortFunc(want, func(a, b api.Rec) int {
		if before(plain, a, b) {
			return -1
		}
		return 1
	})
	was := holds(t, 256, api.KindRaw, list)
	var all sync.WaitGroup
	made := make([][]api.Rec, 8)
	for i := range made {
		b := mount(t, was, 100)
		all.Go(func() {
			if e := sorter.Sort(b.Desk, "in0", "out", api.KindRaw, plain, false, 28+9*i); e != api.OK {
				t.Errorf("Sort: %d", e)
				return
			}
			for r := range b.All("out", api.KindRaw) {
				made[i] = append(made[i], r)
			}
		})
	}
	all.Wait()
	for i := range made {
		if !slices.Equal(made[i], want) {
			t.Errorf("sort %d: %d records, not those that it should have", i, len(made[i]))
		}
	}
}

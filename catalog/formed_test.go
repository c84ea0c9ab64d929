package catalog_test

import (
	"slices"
	"testing"

	"strata/api"
	"strata/catalog"
)

func formedAs(t *testing.T, r api.Rows, want bool) {
	t.Helper()
	if got := catalog.Formed(r); got != want {
		t.Fatalf("Formed of %+v: %v", r, got)
	}
}

// lists are all lists of so many of these numbers.
func lists(numbers []int, n int) [][]int {
	out := [][]int{nil}
	for range n {
		var longer [][]int
		for _, list := range out {
			for _, x := range numbers {
				longer = append(longer, append(slices.Clone(list), x))
			}
		}
		out = longer
	}
	return out
}

// TestOrders: all short lists, with all small numbers of variables. P17.1.
func TestOrders(t *testing.T) {
	good := 0
	for n := range 5 {
		for _, order := range lists([]int{-1, 0, 1, 2, 3, 4}, n) {
			for vars := -1; vars <= 5; vars++ {
				r := api.Rows{Vars: vars, Order: order, Next: 1}
				want := isFormed(r)
				formedAs(t, r, want)
				if want {
					good++
				}
			}
		}
	}
	if good != 1+1+2+6+24 {
		t.Errorf("%d orders are formed", good)
	}
}

// TestRows: all short lists of rows, with all small handles and files. P17.1.
func TestRows(t *testing.T) {
	good := 0
	for n := range 4 {
		for _, handles := range lists([]int{-1, 0, 1, 2, 4}, n) {
			for _, files := range lists([]int{0, 1, 2}, n) {
				r := api.Rows{}
				for i := range n {
					r.Rows = append(r.Rows, api.Row{Handle: handles[i], File: uint64(files[i])})
				}
				for r.Next = -1; r.Next <= 5; r.Next++ {
					for r.NextFile = range uint64(4) {
						want := isFormed(r)
						formedAs(t, r, want)
						if want {
							good++
						}
					}
				}
			}
		}
	}
	if good == 0 {
		t.Errorf("no rows are formed")
	}
}

// many are so many rows, all of one file.
func many(n int) []api.Row {
	var rows []api.Row
	for i := range n {
		rows = append(rows, api.Row{Handle: i + 1})
	}
	return rows
}

// TestLimits: the greatest values that may be, and those behind them. P17.1.
func TestLimits(t *testing.T) {
	const far = 1 << 62
	most := table(65536, 1<<31, last, api.Row{Handle: 1<<31 - 1, File: last - 1})
	formedAs(t, most, true)
	for what, change := range map[string]func(r *api.Rows){
		"a variable more":            func(r *api.Rows) { r.Vars++; r.Order = append(r.Order, 65536) },
		"a variable more, none less": func(r *api.Rows) { r.Vars++ },
		"a level more":               func(r *api.Rows) { r.Order = append(r.Order, 0) },
		"no levels":                  func(r *api.Rows) { r.Order = nil },
		"a variable twice":           func(r *api.Rows) { r.Order[3] = r.Order[65535] },
		"a variable that is not":     func(r *api.Rows) { r.Order[9] = 65536 },
		"a far variable":             func(r *api.Rows) { r.Order[9] = far },
		"one far below":              func(r *api.Rows) { r.Order[9] = -far },
		"variables far below":        func(r *api.Rows) { r.Vars = -1 << 63 },
		"far too many variables":     func(r *api.Rows) { r.Vars = 1<<63 - 1 },
		"the next handle":            func(r *api.Rows) { r.Next++ },
		"a far next handle":          func(r *api.Rows) { r.Next = 1<<63 - 1 },
		"one far below all":          func(r *api.Rows) { r.Next = -1 << 63 },
		"a handle too great":         func(r *api.Rows) { r.Rows[0].Handle++ },
		"a far handle":               func(r *api.Rows) { r.Rows[0].Handle = 1<<63 - 1 },
		"a handle far below":         func(r *api.Rows) { r.Rows[0].Handle = -1 << 63 },
		"the last file":              func(r *api.Rows) { r.Rows[0].File = last },
		"no files":                   func(r *api.Rows) { r.NextFile = 0 },
	} {
		r := most
		r.Order, r.Rows = slices.Clone(most.Order), slices.Clone(most.Rows)
		change(&r)
		if isFormed(r) || catalog.Formed(r) {
			t.Errorf("%s: it is formed", what)
		}
	}
	for n, want := range map[int]bool{0: true, 1: true, 1023: true, 1024: true, 1025: false, 5000: false} {
		formedAs(t, table(2, 1<<31, 1, many(n)...), want)
	}
	formedAs(t, api.Rows{}, false)
	formedAs(t, api.Rows{Next: 1}, true)
	formedAs(t, api.Rows{Next: 1, Order: []int{}, Rows: []api.Row{}}, true)
}

// TestNames: of numbers of all lengths. P17.1.
func TestNames(t *testing.T) {
	for shift := range 64 {
		for _, n := range []uint64{1 << shift, 1<<shift - 1, last >> shift, 0x123456789abcdef0 >> shift} {
			if got := catalog.FileName(n); got != fileName(n) {
				t.Errorf("FileName(%d): %s", n, got)
			}
			if got := catalog.Name(n); got != catName(n) {
				t.Errorf("Name(%d): %s", n, got)
			}
		}
	}
	if catalog.FileName(0) != "dd-0000000000000000" || catalog.Name(0) != "cat-0000000000000000" || catalog.Name(last) != "cat-ffffffffffffffff" || catalog.FileName(0xbcde) != "dd-000000000000bcde" {
		t.Errorf("%s %s", catalog.FileName(0), catalog.Name(last))
	}
}

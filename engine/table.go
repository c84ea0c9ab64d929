package engine

import (
	"cmp"
	"slices"

	"strata/api"
	"strata/catalog"
)

// lastFile is the number that no diagram's file has.
const lastFile = 1<<64 - 1

// find is the place of a handle's row.
func (e *Engine) find(handle int) (int, bool) {
	return slices.BinarySearchFunc(e.table.Rows, handle, func(row api.Row, handle int) int { return cmp.Compare(row.Handle, handle) })
}

// files are those of handles, in their order.
func (e *Engine) files(handles []int) ([]string, error) {
	names := make([]string, 0, len(handles))
	for _, handle := range handles {
		place, there := e.find(handle)
		if !there {
			return nil, wrong(api.ErrHandle)
		}
		names = append(names, catalog.FileName(e.table.Rows[place].File))
	}
	return names, nil
}

// numbersOf are the numbers of the files of rows, rising, each once.
func numbersOf(rows []api.Row) []uint64 {
	list := make([]uint64, 0, len(rows))
	for _, row := range rows {
		list = append(list, row.File)
	}
	slices.Sort(list)
	return slices.Compact(list)
}

// namesOf are the names of files.
func namesOf(numbers []uint64) []string {
	names := make([]string, 0, len(numbers))
	for _, n := range numbers {
		names = append(names, catalog.FileName(n))
	}
	return names
}

// grown is the table with a row more, of that file.
func (e *Engine) grown(file uint64) (api.Rows, error) {
	t := e.table
	if len(t.Rows) >= api.MaxLive {
		return api.Rows{}, wrong(api.ErrMany)
	}
	if t.Next > api.MaxHandle {
		return api.Rows{}, wrong(api.ErrWorn)
	}
	t.Rows = append(slices.Clone(t.Rows), api.Row{Handle: t.Next, File: file})
	t.Next++
	return t, nil
}

// grownByFile is the table with a row more, of a file that is to be made.
func (e *Engine) grownByFile() (api.Rows, error) {
	t, err := e.grown(e.table.NextFile)
	if err != nil {
		return api.Rows{}, err
	}
	if t.NextFile == lastFile {
		return api.Rows{}, wrong(api.ErrWorn)
	}
	t.NextFile++
	return t, nil
}

// levels are the levels of all variables.
func (e *Engine) levels() []int { return inverse(e.table.Order) }

// levelsOf are those of some variables, in their order.
func (e *Engine) levelsOf(vars []int) []int {
	all := e.levels()
	list := make([]int, 0, len(vars))
	for _, v := range vars {
		list = append(list, all[v])
	}
	return list
}

// byLevel are literals of variables as such of levels.
func (e *Engine) byLevel(lits []api.Lit) []api.Lit {
	all := e.levels()
	list := make([]api.Lit, 0, len(lits))
	for _, lit := range lits {
		list = append(list, api.Lit{Level: all[lit.Level], Value: lit.Value})
	}
	return list
}

// askVariables refuses variables that there are not, and one that is named twice.
func (e *Engine) askVariables(vars ...int) api.Errno {
	seen := make([]bool, e.table.Vars)
	for _, v := range vars {
		if !e.isVariable(v) || seen[v] {
			return api.ErrLevel
		}
		seen[v] = true
	}
	return api.OK
}

func (e *Engine) isVariable(v int) bool { return v >= 0 && v < e.table.Vars }

// variablesOf are the variables of literals.
func variablesOf(lits []api.Lit) []int {
	vars := make([]int, 0, len(lits))
	for _, lit := range lits {
		vars = append(vars, lit.Level)
	}
	return vars
}

// upTo are the numbers below n, in their order.
func upTo(n int) []int {
	list := make([]int, n)
	for i := range list {
		list[i] = i
	}
	return list
}

// inverse tells where each number stands in a list that has each just once.
func inverse(list []int) []int {
	places := make([]int, len(list))
	for place, x := range list {
		places[x] = place
	}
	return places
}

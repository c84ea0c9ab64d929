package catalog

import "strata/api"

// pair is what the record of a level or of a row tells: the level and its variable, the handle and its file.
type pair struct{ key, value uint64 }

// told is what a catalog's records have told so far. It never holds more than a table may have.
type told struct {
	list   []pair // of the levels, then of the rows
	levels int
	end    api.Rec // its first word: whether it has been there
	none   bool    // these are no table's records
}

// take goes on with the next record.
func (t *told) take(r api.Rec) {
	switch {
	case t.none:
	case t.end[0] == api.Mark:
		*t = told{none: true}
	case r[0] == api.Mark:
		t.end = r
	case t.isLevel(r):
		t.levels++
		fallthrough
	case t.isRow(r):
		t.list = append(t.list, pair{r[0], r[1]})
	default:
		*t = told{none: true}
	}
}

// isLevel tells whether a record may be that of the next level.
func (t *told) isLevel(r api.Rec) bool {
	return r[2] == 0 && r[3] == ofLevel && r[0] == uint64(t.levels) && t.levels == len(t.list) && t.levels < api.MaxVars
}

// isRow tells whether a record may be that of the next row.
func (t *told) isRow(r api.Rec) bool {
	return r[2] == 0 && r[3] == ofRow && len(t.list)-t.levels < api.MaxLive
}

// table is the table that has been told, if it is one and of that generation. (Where no end has been there that is 0, which none is of.)
func (t *told) table(gen uint64) (api.Rows, bool) {
	if t.end[1] != gen {
		return api.Rows{}, false
	}
	n, m := t.levels, len(t.list)
	r := api.Rows{
		Vars:     n,
		Order:    orderOf(t.list[:n:n]),
		Rows:     rowsOf(t.list[n:m:m]),
		Next:     int(t.end[2]),
		NextFile: t.end[3],
	}
	return r, Formed(r)
}

// orderOf and rowsOf are what pairs tell of levels and of rows.
func orderOf(levels []pair) []int {
	order := make([]int, 0, len(levels))
	for _, p := range levels {
		order = append(order, int(p.value))
	}
	return order
}

func rowsOf(list []pair) []api.Row {
	rows := make([]api.Row, 0, len(list))
	for _, p := range list {
		rows = append(rows, api.Row{Handle: int(p.key), File: p.value})
	}
	return rows
}

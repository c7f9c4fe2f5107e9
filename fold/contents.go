package fold

import (
	"iter"
	"maps"
	"slices"

	"lattice/api"
	"lattice/key"
)

// put is what a commit says, in Other, of one; else it says a delete.
const put = 1

// contents are a map's entries, by their keys.
type contents map[string]api.Entry

// write does to a map what a right commit says.
func (m contents) write(r api.Record) {
	if r.Other == put {
		m[r.Key] = api.Entry{Key: r.Key, Value: r.Value}
	} else {
		delete(m, r.Key)
	}
}

// rising are a map's entries, their keys in order.
func (m contents) rising() iter.Seq[api.Entry] {
	return func(yield func(api.Entry) bool) {
		for _, k := range slices.SortedFunc(maps.Keys(m), key.Compare) {
			if !yield(m[k]) {
				return
			}
		}
	}
}

// gives tells whether an operation gives a result, of a map that has nothing but what it looks at.
func (m contents) gives(op api.Op, x api.Result) bool {
	if op.Kind == api.OpScan && !m.hasJust(x.Entries) {
		return false // the keys need not be brought in order for that
	}
	y := given(op, m.rising())
	return y.Found == x.Found && y.Value == x.Value && slices.Equal(y.Entries, x.Entries)
}

// hasJust tells whether entries, in any order, are as many as a map has, and all in it.
func (m contents) hasJust(l []api.Entry) bool {
	return len(l) == len(m) && !slices.ContainsFunc(l, m.lacks)
}

// lacks tells whether an entry is not in a map.
func (m contents) lacks(e api.Entry) bool {
	has, ok := m[e.Key]
	return !ok || has != e
}

// isKind tells whether a number is that of a kind of operations.
func isKind(kind int) bool {
	switch kind {
	case api.OpGet, api.OpPut, api.OpDel, api.OpScan:
		return true
	}
	return false
}

// looksAt tells whether what an operation gives hangs on a key.
func looksAt(op api.Op, k string) bool {
	if op.Kind != api.OpScan {
		return k == op.Key
	}
	return key.Compare(k, op.Key) >= 0 && (op.Value == "" || key.Compare(k, op.Value) < 0)
}

// given is what an operation gives of a map's entries, whose keys rise.
func given(op api.Op, entries iter.Seq[api.Entry]) api.Result {
	var x api.Result
	for e := range entries {
		if !looksAt(op, e.Key) {
			continue
		}
		switch op.Kind {
		case api.OpScan:
			x.Entries = append(x.Entries, e)
		case api.OpGet:
			return api.Result{Found: true, Value: e.Value}
		default:
			return api.Result{Found: true}
		}
	}
	return x
}

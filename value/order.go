package value

import (
	"cmp"

	"coffret/api"
)

// Compare is -1, 0 or 1: a stands ahead of b, with it, behind it.
func Compare(a, b api.Value) int {
	if a.Kind != b.Kind {
		return cmp.Compare(a.Kind, b.Kind)
	}
	switch a.Kind {
	case api.KindInt, api.KindBool, api.KindDate:
		return cmp.Compare(a.Int, b.Int)
	case api.KindText, api.KindBytes, api.KindId:
		return cmp.Compare(a.Text, b.Text)
	case api.KindList:
		return compareRows(a.List, b.List, Compare)
	case api.KindDoc:
		return compareRows(a.Doc, b.Doc, compareFields)
	}
	return 0
}

func compareFields(a, b api.Field) int {
	if a.Name != b.Name {
		return cmp.Compare(a.Name, b.Name)
	}
	return Compare(a.Value, b.Value)
}

// compareRows: the first two items that are unlike decide, else the shorter row stands ahead.
func compareRows[T any](a, b []T, order func(x, y T) int) int {
	for i := range min(len(a), len(b)) {
		if c := order(a[i], b[i]); c != 0 {
			return c
		}
	}
	return cmp.Compare(len(a), len(b))
}

// Sort are values in their order.
func Sort(l []api.Value) []api.Value {
	return sorted(cloneList(l), Compare)
}

// sorted are items in an order; those that are alike in it as they stand in l.
func sorted[T any](l []T, order func(x, y T) int) []T {
	if len(l) < 2 {
		return append([]T(nil), l...)
	}
	half := len(l) / 2
	return merged(sorted(l[:half], order), sorted(l[half:], order), order)
}

// merged are two rows, each in order, as one; of items alike those of a stand ahead.
func merged[T any](a, b []T, order func(x, y T) int) []T {
	out := make([]T, 0, len(a)+len(b))
	for len(a) > 0 && len(b) > 0 {
		if order(a[0], b[0]) <= 0 {
			out, a = append(out, a[0]), a[1:]
		} else {
			out, b = append(out, b[0]), b[1:]
		}
	}
	return append(append(out, a...), b...)
}

package store

import (
	"slices"

	"franking/flag"
	"franking/head"
	"franking/view"
)

// The Kinds of view's operations that compact looks at.
const (
	opDeliver = 1
	opDrop    = 7
	opFlags   = 8
)

// compact leaves out of operations what later ones make void: flags that are replaced later, and
// whatever belongs to a message that is removed later, except for what connects its thread.
func compact(ops []view.Op) []view.Op {
	ids := idsOf(ops)
	gone, flagged := map[int64]int{}, map[int64]int{} // the last operation that removes a message, or sets its flags
	var kept []view.Op
	for i, o := range slices.Backward(ops) {
		switch o.Kind {
		case opDeliver:
			o = lighter(o, has(gone, ids[i]), has(flagged, ids[i]))
		case opFlags:
			o.IDs = slices.DeleteFunc(slices.Clone(o.IDs), func(id int64) bool {
				return has(gone, id) || has(flagged, id)
			})
			if len(o.IDs) == 0 {
				continue
			}
			mark(flagged, o.IDs, i)
		case opDrop:
			mark(gone, o.IDs, i)
		}
		kept = append(kept, o)
	}
	slices.Reverse(kept)
	return kept
}

// idsOf tells, for each operation that delivers a message, the ID of the message.
func idsOf(ops []view.Op) []int64 {
	ids := make([]int64, len(ops))
	var last int64
	for i, o := range ops {
		if o.Kind == opDeliver {
			last++
			ids[i] = last
		}
	}
	return ids
}

// lighter leaves out of a delivery what is void.
func lighter(o view.Op, gone, flagged bool) view.Op {
	if gone || flagged {
		o.Flags = flag.Set{}
	}
	if gone {
		o.Unix = 0
		if refs := head.Pick(o.Body, []string{"Message-ID", "In-Reply-To", "References"}, false); len(refs) < len(o.Body) {
			o.Body = refs
		}
	}
	return o
}

func has(m map[int64]int, id int64) bool {
	_, ok := m[id]
	return ok
}

func mark(m map[int64]int, ids []int64, i int) {
	for _, id := range ids {
		m[id] = i
	}
}

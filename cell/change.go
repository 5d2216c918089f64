package cell

import (
	"cmp"
	"slices"

	"vyakarana/api"
)

// Needless: see P6.4.
func Needless(p api.Paradigm) ([]int, api.Errno) {
	if e := Validate(p); e != api.OK {
		return nil, e
	}
	var list []int
	for i := range p.Entries {
		if isNeedless(p, i) {
			list = append(list, i)
		}
	}
	return list, api.OK
}

// Reduce: see P6.4.
func Reduce(p api.Paradigm) (api.Paradigm, api.Errno) {
	if e := Validate(p); e != api.OK {
		return api.Paradigm{}, e
	}
	r := copied(p)
	for i := len(p.Entries) - 1; i >= 0; i-- {
		if isNeedless(r, i) {
			r = without(r, i)
		}
	}
	return r, api.OK
}

// Same: see P6.4.
func Same(p, q api.Paradigm) (bool, api.Errno) {
	if e := cmp.Or(Validate(p), Validate(q)); e != api.OK {
		return false, e
	}
	if !slices.Equal(p.Sizes, q.Sizes) {
		return false, api.ErrFit
	}
	return sameFill(p, q), api.OK
}

// Swap: see P6.4.
func Swap(p api.Paradigm, i, j int) (api.Paradigm, api.Errno) {
	if e := validateEntries(p, i, j); e != api.OK {
		return api.Paradigm{}, e
	}
	s := copied(p)
	s.Entries[i], s.Entries[j] = s.Entries[j], s.Entries[i]
	return s, api.OK
}

// Add: see P6.4.
func Add(p api.Paradigm, e api.Entry) (api.Paradigm, api.Errno) {
	if e := Validate(p); e != api.OK {
		return api.Paradigm{}, e
	}
	a := copied(p)
	a.Entries = append(a.Entries, copiedEntry(e))
	if e := Validate(a); e != api.OK {
		return api.Paradigm{}, e
	}
	return a, api.OK
}

// Without: see P6.4.
func Without(p api.Paradigm, i int) (api.Paradigm, api.Errno) {
	if e := validateEntries(p, i); e != api.OK {
		return api.Paradigm{}, e
	}
	return without(p, i), api.OK
}

// copied returns a paradigm in memory of its own.
func copied(p api.Paradigm) api.Paradigm {
	c := api.Paradigm{Sizes: slices.Clone(p.Sizes)}
	for _, e := range p.Entries {
		c.Entries = append(c.Entries, copiedEntry(e))
	}
	return c
}

func copiedEntry(e api.Entry) api.Entry {
	return api.Entry{Spec: slices.Clone(e.Spec), Form: e.Form}
}

// without returns a paradigm without the entry i, in memory of its own.
func without(p api.Paradigm, i int) api.Paradigm {
	w := copied(p)
	w.Entries = slices.Delete(w.Entries, i, i+1)
	return w
}

func isNeedless(p api.Paradigm, i int) bool {
	return sameFill(p, without(p, i))
}

func sameFill(p, q api.Paradigm) bool {
	return slices.Equal(fill(p), fill(q))
}

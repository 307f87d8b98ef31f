package paths

import "limewash/api"

// Parent returns p without its last name, and this name.
func Parent(p []string) (parent []string, last string, e api.Errno) {
	if e := Check(p); e != api.OK {
		return nil, "", e
	}
	if len(p) == 0 {
		return nil, "", api.ErrNone
	}
	names := fresh(p)
	end := len(names) - 1
	return names[:end:end], names[end], api.OK
}

// Join returns p with name at its end.
func Join(p []string, name string) ([]string, api.Errno) {
	if e := Check(p); e != api.OK {
		return nil, e
	}
	if e := Name(name); e != api.OK {
		return nil, e
	}
	return concat(p, []string{name})
}

// Move returns p with the names of to in the place of those of from.
func Move(p, from, to []string) ([]string, api.Errno) {
	if e := checkAll(p, from, to); e != api.OK {
		return nil, e
	}
	if !isUnder(p, from) {
		return nil, api.ErrNone
	}
	return concat(to, p[len(from):])
}

// concat returns the names of p, and after them those of q, which have been checked.
func concat(p, q []string) ([]string, api.Errno) {
	if len(p)+len(q) > api.MaxDepth {
		return nil, api.ErrLong
	}
	return append(fresh(p), fresh(q)...), api.OK
}

package device

import "limewash/api"

// Flush makes all writes of the cache stable.
func (d *Dev) Flush() api.Errno {
	if e := d.ready(); e != api.OK {
		return e
	}
	d.settle()
	return api.OK
}

// Limit lets the device take so many more writes, or any number of them for -1.
func (d *Dev) Limit(writes int64) api.Errno {
	if !d.isMade() {
		return api.ErrNil
	}
	if !isPower(writes) {
		return api.ErrRange
	}
	d.power = writes
	return api.OK
}

// Crash makes only those writes of the cache stable that have the indices keep; then the device has power again.
func (d *Dev) Crash(keep []int) api.Errno {
	if !d.isMade() {
		return api.ErrNil
	}
	if e := d.checkKeep(keep); e != api.OK {
		return e
	}
	for _, i := range keep {
		d.apply(d.cache[i])
	}
	d.empty()
	d.power = anyNumber
	d.off = false
	return api.OK
}

// checkKeep returns ErrRange if keep has an index without a write, ErrForm if it is not ascending.
func (d *Dev) checkKeep(keep []int) api.Errno {
	for _, i := range keep {
		if i < 0 || i >= len(d.cache) {
			return api.ErrRange
		}
	}
	for i := 1; i < len(keep); i++ {
		if keep[i-1] >= keep[i] {
			return api.ErrForm
		}
	}
	return api.OK
}

// settle makes all writes of the cache stable, the oldest one first.
func (d *Dev) settle() {
	for _, w := range d.cache {
		d.apply(w)
	}
	d.empty()
}

// apply makes w stable.
func (d *Dev) apply(w api.DvWrite) {
	d.stable[w.At] = w.Data
}

// empty leaves no write in the cache.
func (d *Dev) empty() {
	d.cache = nil
	clear(d.newest)
}

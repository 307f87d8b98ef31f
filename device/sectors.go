package device

import "limewash/api"

// Read returns what the sector n reads as.
func (d *Dev) Read(n int) (api.Sector, api.Errno) {
	if e := d.reach(n); e != api.OK {
		return api.Sector{}, e
	}
	return d.sector(n), api.OK
}

// Write writes s to the sector n, in the cache.
func (d *Dev) Write(n int, s api.Sector) api.Errno {
	if e := d.reach(n); e != api.OK {
		return e
	}
	if d.power == 0 || d.taken == api.MaxDvTaken {
		d.off = true
		return api.ErrPower
	}
	if len(d.cache) == api.MaxDvCache {
		d.settle()
	}
	d.put(api.DvWrite{At: n, Data: s})
	d.taken++
	if d.power > 0 {
		d.power--
	}
	return api.OK
}

// Diff returns the numbers of the sectors that read as different bytes in both devices.
func (d *Dev) Diff(o *Dev) ([]int, api.Errno) {
	if !d.isMade() || !o.isMade() {
		return nil, api.ErrNil
	}
	if len(d.stable) != len(o.stable) {
		return nil, api.ErrForm
	}
	var l []int
	for n := range d.stable {
		if d.sector(n) != o.sector(n) {
			l = append(l, n)
		}
	}
	return l, api.OK
}

// ready returns ErrNil if d is no device, ErrPower if it is off.
func (d *Dev) ready() api.Errno {
	if !d.isMade() {
		return api.ErrNil
	}
	if d.off {
		return api.ErrPower
	}
	return api.OK
}

// reach returns the error of a call for the sector n.
func (d *Dev) reach(n int) api.Errno {
	if e := d.ready(); e != api.OK {
		return e
	}
	if n < 0 || n >= len(d.stable) {
		return api.ErrRange
	}
	return api.OK
}

// sector returns what the sector n reads as, also if the device is off.
func (d *Dev) sector(n int) api.Sector {
	if i, is := d.newest[n]; is {
		return d.cache[i].Data
	}
	return d.stable[n]
}

// put puts w at the end of the cache.
func (d *Dev) put(w api.DvWrite) {
	d.newest[w.At] = len(d.cache)
	d.cache = append(d.cache, w)
}

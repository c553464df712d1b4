package disk

import "manometer/api"

// isName tells whether a file may have that name.
func isName(name string) bool {
	if len(name) == 0 || len(name) > api.MaxTitle {
		return false
	}
	for i := range len(name) {
		c := name[i]
		if (c < 'a' || c > 'z') && (c < '0' || c > '9') && c != '-' && c != '.' {
			return false
		}
	}
	return true
}

// Append puts b behind the file's bytes; it does not last before it is synced.
func (d *Disk) Append(name string, b []byte) api.Errno {
	if !d.made() {
		return api.ErrMade
	}
	if !isName(name) {
		return api.ErrTitle
	}
	f, there := d.files[name]
	switch {
	case !there && len(d.files) >= api.MaxFiles:
		return api.ErrLong
	case len(b) > d.room-d.Size():
		return api.ErrFull
	}
	if !there {
		f = &file{}
		d.files[name] = f
	}
	f.bytes = append(f.bytes, b...)
	return api.OK
}

// Sync makes all bytes of the file last.
func (d *Disk) Sync(name string) api.Errno {
	f, err := d.find(name)
	if err != api.OK {
		return err
	}
	f.lasts = len(f.bytes)
	return api.OK
}

// Cut leaves the file its first n bytes, and these last.
func (d *Disk) Cut(name string, n int) api.Errno {
	f, err := d.find(name)
	switch {
	case err != api.OK:
		return err
	case n < 0 || n > len(f.bytes):
		return api.ErrArg
	}
	f.end(n)
	return api.OK
}

// Remove takes the file away.
func (d *Disk) Remove(name string) api.Errno {
	if _, err := d.find(name); err != api.OK {
		return err
	}
	delete(d.files, name)
	return api.OK
}

// Swap gives the file another name, in the place of what had that one.
func (d *Disk) Swap(from, to string) api.Errno {
	f, err := d.find(from)
	switch {
	case err != api.OK:
		return err
	case !isName(to):
		return api.ErrTitle
	case f.lasts < len(f.bytes):
		return api.ErrState
	}
	delete(d.files, from) // ahead of what follows, as both names may be one
	d.files[to] = f
	return api.OK
}

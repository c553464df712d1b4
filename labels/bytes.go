package labels

import (
	"manometer/api"
	"manometer/bits"
	"manometer/hash"
)

// textEnd stands behind each text that is hashed: no text has such a byte, so that texts that are cut otherwise are others.
const textEnd = 0xff

// Put is right labels as bytes.
func Put(l api.Labels) ([]byte, api.Errno) {
	if err := Right(l); err != api.OK {
		return nil, err
	}
	b := bits.PutUvarint(uint64(len(l)))
	for _, one := range l {
		b = append(b, sized(one.Name)...)
		b = append(b, sized(one.Value)...)
	}
	return b, api.OK
}

// sized is a text with how many bytes it has ahead.
func sized(s string) []byte { return append(bits.PutUvarint(uint64(len(s))), s...) }

// Take is the labels that b begins with as Put makes them, and how many bytes they take.
func Take(b []byte) (api.Labels, int, api.Errno) {
	count, at, err := bits.Uvarint(b)
	if err != api.OK {
		return nil, 0, err
	}
	if count > api.MaxLabels {
		return nil, 0, api.ErrLong
	}
	list := make(api.Labels, count)
	for i := range list {
		one, n, err := takeLabel(b[at:])
		if err != api.OK {
			return nil, 0, err
		}
		list[i] = one
		at += n
	}
	if err := Right(list); err != api.OK {
		return nil, 0, err
	}
	return list, at, api.OK
}

// takeLabel is the name and the value that b begins with, and how many bytes they take.
func takeLabel(b []byte) (api.Label, int, api.Errno) {
	name, n, err := takeText(b, api.MaxName)
	if err != api.OK {
		return api.Label{}, 0, err
	}
	value, more, err := takeText(b[n:], api.MaxValue)
	if err != api.OK {
		return api.Label{}, 0, err
	}
	return api.Label{Name: name, Value: value}, n + more, api.OK
}

// takeText is the text of at most so many bytes that b begins with, behind how many it has, and how many bytes both take.
func takeText(b []byte, most uint64) (string, int, api.Errno) {
	n, head, err := bits.Uvarint(b)
	switch {
	case err != api.OK:
		return "", 0, err
	case n > most:
		return "", 0, api.ErrLong
	case n > uint64(len(b)-head):
		return "", 0, api.ErrShort
	}
	end := head + int(n)
	return string(b[head:end]), end, api.OK
}

// Hash is a short sum of right labels.
func Hash(l api.Labels) (uint64, api.Errno) {
	if err := Right(l); err != api.OK {
		return 0, err
	}
	var b []byte
	for _, one := range l {
		b = append(append(b, one.Name...), textEnd)
		b = append(append(b, one.Value...), textEnd)
	}
	return hash.XX(b), api.OK
}

package record

import (
	"valise/api"
	"valise/field"
)

// putCommon puts the fields that a local header and a directory record share.
func putCommon(b *field.Buffer, l api.Local) {
	b.U16(l.Need)
	b.U16(l.Flags)
	b.U16(l.Method)
	b.U16(l.Clock)
	b.U16(l.Date)
	putSizes(b, l)
	b.U16(len(l.Name))
	b.U16(len(l.Extra))
}

// putSizes puts the fields that a descriptor repeats.
func putSizes(b *field.Buffer, l api.Local) {
	b.U32(int(l.Sum))
	b.U32(l.Packed)
	b.U32(l.Size)
}

// getCommon reads what putCommon puts: the fields, and how long the name and the extra text are.
func getCommon(c *field.Cursor) (l api.Local, name, extra int) {
	l.Need = c.U16()
	l.Flags = c.U16()
	l.Method = c.U16()
	l.Clock = c.U16()
	l.Date = c.U16()
	l.Sum = uint32(c.U32())
	l.Packed = c.U32()
	l.Size = c.U32()
	name = c.U16()
	extra = c.U16()
	return l, name, extra
}

// taken tells the bytes of a record that has been put. A number, or a text's length, that didn't fit is all that can stand in the buffer.
func taken(b *field.Buffer) ([]byte, api.Errno) {
	if b.Err() != api.OK {
		return nil, api.ErrRecWide
	}
	return b.Take(), api.OK
}

// fieldsAt is a cursor behind the signature of a record whose fields have n bytes. It is over the fields alone: a cursor copies what it is over, and data may be a whole file.
func fieldsAt(data []byte, at, n, sign int) (*field.Cursor, api.Errno) {
	if at < 0 || at > len(data) {
		return nil, api.ErrArg
	}
	if len(data)-at < n {
		return nil, api.ErrRecShort
	}
	c := field.NewCursor(data[at : at+n])
	if c.U32() != sign {
		return nil, api.ErrRecSig
	}
	return c, api.OK
}

// textsAt is a cursor over n bytes of texts, or over fewer, where data ends within them.
func textsAt(data []byte, at, n int) *field.Cursor {
	return field.NewCursor(data[at:min(at+n, len(data))])
}

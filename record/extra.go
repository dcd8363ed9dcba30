package record

import (
	"valise/api"
	"valise/field"
)

// SplitExtra tells the fields of an extra text.
func SplitExtra(text string) ([]api.Extra, api.Errno) {
	if len(text) > maxText {
		return nil, api.ErrRecWide
	}
	var fields []api.Extra
	c := field.NewCursor([]byte(text))
	for c.Left() > 0 {
		tag := c.U16()
		n := c.U16()
		data := c.Text(n)
		if c.Err() != api.OK {
			return nil, api.ErrRecShort
		}
		fields = append(fields, api.Extra{Tag: tag, Data: data})
	}
	return fields, api.OK
}

// JoinExtra tells the extra text of fields.
func JoinExtra(fields []api.Extra) (string, api.Errno) {
	b := field.NewBuffer(maxText)
	for _, f := range fields {
		b.U16(f.Tag)
		b.U16(len(f.Data))
		b.Text(f.Data)
		if b.Err() != api.OK { // a wide number, or the text's limit: both are this one error
			return "", api.ErrRecWide
		}
	}
	return string(b.Take()), api.OK
}

"""The writer of folios (point 69)."""

from stillroom.characters import codes
from stillroom.digits import to_hex
from stillroom.errors import Malformed
from stillroom.scanning import is_regular
from stillroom.signs import FOLIO_SIGN
from stillroom.values import is_book, is_value

_NEWLINE = 10
_SPACE = 32
_SLASH = 47
_BACKSLASH = 92
_TILDE = 126

# The codes of ( ) and the backslash.
_MARKED_IN_TEXTS = (40, 41, 92)


def write_book(book):
    """The byte list of a book. Raises Malformed if it is not sound."""
    if not is_book(book):
        raise Malformed("the book is not sound")
    objects, root = book
    found = list(FOLIO_SIGN) + [_NEWLINE]
    for number, value in objects:
        found.extend(codes(f"#{number}\n"))
        found.extend(_written(value))
        found.append(_NEWLINE)
    if root != 0:
        found.extend(codes(f"root @{root}\n"))
    return found


def write_value(value):
    """The byte list of a value. Raises Malformed if it is not sound."""
    if not is_value(value):
        raise Malformed("the value is not sound")
    return _written(value)


def _written(value):
    """The byte list of a sound value."""
    kind = value[0]
    if kind == "name":
        return _written_name(value[1])
    if kind == "text":
        return _written_text(value[1])
    if kind == "list":
        return codes("[") + _spaced([_written(item) for item in value[1]]) + codes("]")
    if kind == "dict":
        return _written_dict(value[1])
    if kind == "stream":
        data = list(value[2])
        return _written_dict(value[1]) + codes("{" + str(len(data)) + "}") + data + codes("{}")
    return codes(_word_of(value))


def _word_of(value):
    """What is written of a value that is none, a bool, an integer or a reference."""
    if value[0] == "none":
        return "none"
    if value[0] == "bool":
        return "true" if value[1] == 1 else "false"
    if value[0] == "ref":
        return f"@{value[1]}"
    return str(value[1])


def _written_dict(pairs):
    written = [_written_name(key) + [_SPACE] + _written(value) for key, value in pairs]
    return codes("<<") + _spaced(written) + codes(">>")


def _spaced(parts):
    """The bytes of all parts, with one space between two of them."""
    found = []
    for part in parts:
        if found:
            found.append(_SPACE)
        found.extend(part)
    return found


def _written_name(data):
    found = [_SLASH]
    for byte in data:
        if 33 <= byte < _TILDE and is_regular(byte):
            found.append(byte)
        else:
            found.extend([_TILDE] + to_hex([byte]))
    return found


def _written_text(data):
    found = codes("(")
    for byte in data:
        if byte in _MARKED_IN_TEXTS:
            found.extend([_BACKSLASH, byte])
        elif 32 <= byte <= 126:
            found.append(byte)
        else:
            found.extend([_BACKSLASH] + to_hex([byte]))
    return found + codes(")")

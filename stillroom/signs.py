"""What a byte list could be, and plain names (points 41, 42, 45 and 48)."""

from stillroom.characters import codes, string_of
from stillroom.fields import read_low_first, stands

KINDS = ("still", "picture", "film", "sheet", "folio", "crate")

# "still 1" and a newline, "IMG" between 137, 13 and 10, "FRM1" and a newline,
# "sheet 1" and a newline.
STILL_SIGN = (115, 116, 105, 108, 108, 32, 49, 10)
PICTURE_SIGN = (137, 73, 77, 71, 13, 10)
FILM_SIGN = (70, 82, 77, 49, 10)
SHEET_SIGN = (115, 104, 101, 101, 116, 32, 49, 10)

# The percent sign and "FOL".
FOLIO_SIGN = (37, 70, 79, 76)
_LAST_SIGN_PLACE = 1023

# "CRT1" and "CEND".
HEAD_SIGN = (67, 82, 84, 49)
END_SIGN = (67, 69, 78, 68)
END_SIZE = 10

_MOST_CHARACTERS = 100
_SLASH = 47
_BACKSLASH = 92
_PERCENT_SIGN = 37


def possible_kinds(data):
    """The list of the kinds that are possible, in the order of KINDS."""
    signs = (STILL_SIGN, PICTURE_SIGN, FILM_SIGN, SHEET_SIGN)
    found = [kind for kind, sign in zip(KINDS, signs) if stands(data, 0, sign)]
    if _sign_place(data, FOLIO_SIGN) >= 0:
        found.append("folio")
    if _sign_place(data, HEAD_SIGN) >= 0 or find_end(data) >= 0:
        found.append("crate")
    return found


def kind_of(data):
    """The kind, or the empty string."""
    kinds = possible_kinds(data)
    if kinds == ["folio", "crate"] and 0 <= _sign_place(data, HEAD_SIGN) < _sign_place(data, FOLIO_SIGN):
        return "crate"
    return kinds[0] if kinds else ""


def _sign_place(data, sign):
    """The first place from 0 to 1023 at which the sign begins, or -1."""
    for at in range(min(len(data), _LAST_SIGN_PLACE + 1)):
        if data[at] == sign[0] and stands(data, at, sign):
            return at
    return -1


def find_end(data):
    """The place of the end of a crate (point 45), or -1 if there is none."""
    for at in range(len(data) - END_SIZE, -1, -1):
        if data[at] == END_SIGN[0] and stands(data, at, END_SIGN):
            if read_low_first(data[at + 6:at + 10]) <= at:
                return at
    return -1


def plain_name(data):
    """The plain name of a byte list, as a string."""
    name = []
    for part in _name_parts(data):
        longer = name + [_SLASH] + part if name else part[:_MOST_CHARACTERS]
        if len(longer) > _MOST_CHARACTERS:
            break
        name = longer
    return string_of(name) if name else "part"


def _name_parts(data):
    """The parts of a name that are left, each one a list of codes."""
    parts = [[]]
    for byte in data:
        if byte == _SLASH or byte == _BACKSLASH:
            parts.append([])
        elif 32 <= byte <= 126 and byte != _PERCENT_SIGN:
            parts[-1].append(byte + 32 if 65 <= byte <= 90 else byte)
    left_out = ([], codes("."), codes(".."))
    return [part for part in parts if part not in left_out]

"""Sheets, their cells and the names of these (points 150 and 151)."""

from stillroom.characters import codes
from stillroom.checks import is_byte_tuple, is_integer_from, is_tuple_of
from stillroom.errors import Malformed, OutOfRange
from stillroom.fields import cut, stands
from stillroom.measure import spend
from stillroom.scanning import read_digits
from stillroom.signs import SHEET_SIGN

_COLUMNS = "ABCDEFGHIJKLMNOP"
_LAST_ROW = 31
_LONGEST_NAME = 3
_MOST_BYTES = 200

_ZERO = 48
_NEWLINE = 10
_SPACE = 32


def _is_place(value):
    if not is_tuple_of(value, 2) or not is_integer_from(value[0], 0, len(_COLUMNS) - 1):
        return False
    return is_integer_from(value[1], 0, _LAST_ROW)


def place_name(place):
    """The name of a place. Raises OutOfRange if the value, of any kind, is none."""
    if not _is_place(place):
        raise OutOfRange("not a place")
    column, row = place
    return f"{_COLUMNS[column]}{row + 1}"


def read_place(text):
    """The place with this name. Raises Malformed if there is none."""
    place = place_of(codes(text))
    if place is None:
        raise Malformed("not the name of a place")
    return place


def place_of(data):
    """The place whose name a list of codes is, or None."""
    if len(data) < 2 or data[1] == _ZERO:
        return None
    number, end = read_digits(data, 1)
    place = (data[0] - ord(_COLUMNS[0]), number - 1)
    return place if end == len(data) and _is_place(place) else None


def read_sheet(data, left):
    """The tuple (sheet or None, left)."""
    if not stands(data, 0, SHEET_SIGN):
        return None, left
    left, enough = spend(left, len(data))
    if not enough:
        return None, left
    contents = {}
    for line in cut(data[len(SHEET_SIGN):], _NEWLINE):
        place, content = _read_line(line)
        if place is not None:
            contents[place] = tuple(content)
    order = sorted([(row, column) for column, row in contents])
    places = [(column, row) for row, column in order]
    return tuple([(place, contents[place]) for place in places if contents[place]]), left


def _read_line(line):
    """The tuple (place, content) of a line; the place is None if it is for none."""
    head = line[:_LONGEST_NAME + 1]
    if _SPACE not in head:
        return None, []
    end = head.index(_SPACE)
    return place_of(head[:end]), line[end + 1:end + 1 + _MOST_BYTES]


def write_sheet(sheet):
    """The byte list of a sheet. Raises Malformed if the value, of any kind, is none, or if
    a content has a newline."""
    if not _is_sheet(sheet):
        raise Malformed("not a sheet")
    found = list(SHEET_SIGN)
    for place, content in sheet:
        if _NEWLINE in content:
            raise Malformed("a content has a newline")
        found.extend(codes(place_name(place)) + [_SPACE] + list(content) + [_NEWLINE])
    return found


def _is_sheet(value):
    if not isinstance(value, tuple) or not all([_is_cell(pair) for pair in value]):
        return False
    order = [(row, column) for (column, row), _ in value]
    return all([before < after for before, after in zip(order, order[1:])])


def _is_cell(value):
    if not is_tuple_of(value, 2) or not _is_place(value[0]) or not is_byte_tuple(value[1]):
        return False
    return 1 <= len(value[1]) <= _MOST_BYTES

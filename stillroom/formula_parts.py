"""The parts of the texts of formulas (point 153)."""

from stillroom.cells import place_of
from stillroom.characters import codes
from stillroom.scanning import is_digit, number_of_digits

WORDS = ("SUM", "MIN", "MAX", "COUNT", "IF", "JOIN", "LINK", "FETCH")
# The longer ones stand before those with which they begin.
_SIGNS = ("<=", ">=", "<>", "+", "-", "*", "/", "(", ")", ",", ":", "=", "<", ">")

_SPACE = 32
_QUOTATION_MARK = 34
_NEWLINE = 10
_MOST_DIGITS = 15


def formula_parts(data):
    """The list of the parts of a text, or None if it has something that is none. Numbers,
    texts and places are their trees (point 154); the others are ("word", word) and
    ("sign", sign)."""
    parts = []
    at = 0
    while at < len(data):
        if data[at] == _SPACE:
            at += 1
            continue
        part, at = _part_at(data, at)
        if part is None:
            return None
        parts.append(part)
    return parts


def _part_at(data, at):
    """The tuple (part, or None if there is none; the place behind it)."""
    if _is_letter_or_digit(data[at]):
        end = at
        while end < len(data) and _is_letter_or_digit(data[end]):
            end += 1
        return _part_of_row(data[at:end]), end
    if data[at] == _QUOTATION_MARK:
        return _text_at(data, at + 1)
    for sign in _SIGNS:
        if data[at:at + len(sign)] == codes(sign):
            return ("sign", sign), at + len(sign)
    return None, at


def _is_letter_or_digit(byte):
    return is_digit(byte) or 65 <= byte <= 90 or 97 <= byte <= 122


def _part_of_row(row):
    """The part that a longest row of letters and digits is, or None."""
    if len(row) <= _MOST_DIGITS and all([is_digit(byte) for byte in row]):
        return "number", number_of_digits(row)
    for word in WORDS:
        if row == codes(word):
            return "word", word
    place = place_of(row)
    return None if place is None else ("place", place[0], place[1])


def _text_at(data, begin):
    """The tuple (text, or None if it does not end; the place behind it) behind its mark."""
    at = begin
    while at < len(data) and data[at] not in (_QUOTATION_MARK, _NEWLINE):
        at += 1
    if at == len(data) or data[at] == _NEWLINE:
        return None, at
    return ("text", tuple(data[begin:at])), at + 1

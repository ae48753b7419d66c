"""The lenient reader of folios (points 63 to 68)."""

from stillroom.digits import from_hex, hex_digit
from stillroom.fields import stands
from stillroom.measure import spend
from stillroom.scanning import (
    AT_SIGN, HASH, is_digit, is_regular, mark_at, read_digits, skip_space, skip_white, word_end,
)
from stillroom.values import GREATEST_DEPTH, GREATEST_INTEGER, first_with_pages

_OPENING_PARENTHESIS = 40
_CLOSING_PARENTHESIS = 41
_LESS = 60
_GREATER = 62
_OPENING_BRACKET = 91
_CLOSING_BRACKET = 93
_OPENING_BRACE = 123
_CLOSING_BRACE = 125
_SLASH = 47
_BACKSLASH = 92
_TILDE = 126
_MINUS = 45

_DICT_BEGIN = (60, 60)
_DICT_END = (62, 62)
_STREAM_END = (123, 125)

# The words "root", "true", "false" and "none".
_ROOT = (114, 111, 111, 116)
_TRUE = (116, 114, 117, 101)
_FALSE = (102, 97, 108, 115, 101)
_NONE = (110, 111, 110, 101)

# What n, r and t stand for behind a backslash.
_ESCAPES = {110: 10, 114: 13, 116: 9}

_NO_VALUE = ("none",)


def read_book(data, left):
    """The tuple (book or None, left)."""
    left, enough = spend(left, len(data))
    if not enough:
        return None, left
    table, noted = _read_objects(data)
    if not table:
        return None, left
    objects = tuple([(number, table[number]) for number in sorted(table)])
    root = noted if noted in table else first_with_pages(objects)
    return (objects, root), left


def _read_objects(data):
    """The tuple (a dict of the objects' values, the number that was noted last, or 0)."""
    table = {}
    noted = 0
    at = skip_space(data, 0)
    while at < len(data):
        number, behind = mark_at(data, at, HASH)
        if number > 0:
            value, at = _read_value(data, behind, "", 0)
            table[number] = _NO_VALUE if value is None else value
        elif is_regular(data[at]):
            number, at = _read_top_word(data, at)
            noted = number if number > 0 else noted
        else:
            at += 1
        at = skip_space(data, at)
    return table, noted


def _read_top_word(data, at):
    """The tuple (the number that the word notes, or 0; the place behind it)."""
    end = word_end(data, at)
    if not _is_word(data, at, end, _ROOT):
        return 0, end
    number, behind = mark_at(data, skip_space(data, end), AT_SIGN)
    return number, (behind if number > 0 else end)


def _is_word(data, at, end, word):
    return end - at == len(word) and stands(data, at, word)


def _read_value(data, at, around, levels):
    """The tuple (value or None, the place behind it). around says what the innermost
    list or dict around is: "list", "dict" or "" for neither; levels, how many there are."""
    value = None
    at = skip_space(data, at)
    while value is None and not _is_over(data, at, around):
        value, at = _value_at(data, at, levels)
        if value is None:
            at = skip_space(data, at)
    return value, at


def _is_over(data, at, around):
    """True if there is no value any more."""
    if _is_object_or_end(data, at):
        return True
    if around == "list":
        return data[at] == _CLOSING_BRACKET
    return around == "dict" and stands(data, at, _DICT_END)


def _is_object_or_end(data, at):
    return at >= len(data) or mark_at(data, at, HASH)[0] > 0


def _value_at(data, at, levels):
    """The tuple (the value that begins right at the place, the place behind it), or
    (None, the place behind what is skipped)."""
    byte = data[at]
    if byte == _OPENING_PARENTHESIS:
        return _read_text(data, at + 1)
    if byte == _OPENING_BRACKET or stands(data, at, _DICT_BEGIN):
        return _read_holder(data, at, levels)
    if byte == _LESS:
        return _read_hex_text(data, at + 1)
    if byte == _SLASH:
        name, at = _read_name(data, at + 1)
        return ("name", name), at
    if byte == AT_SIGN:
        number, behind = mark_at(data, at, AT_SIGN)
        return (("ref", number), behind) if number > 0 else (None, at + 1)
    if is_regular(byte):
        end = word_end(data, at)
        return _word_value(data, at, end), end
    return None, at + 1


def _read_holder(data, at, levels):
    """The list or dict that begins at the place; it is skipped where it would be too deep."""
    if levels == GREATEST_DEPTH:
        return None, at + 1
    if data[at] == _OPENING_BRACKET:
        return _read_list(data, at + 1, levels + 1)
    return _read_dict(data, at + 2, levels + 1)


def _read_text(data, at):
    """The text that begins behind its first parenthesis, and the place behind it."""
    found = []
    around = 1
    while at < len(data):
        byte = data[at]
        if byte == _BACKSLASH:
            piece, at = _read_escape(data, at + 1)
            found.extend(piece)
            continue
        at += 1
        if byte == _OPENING_PARENTHESIS:
            around += 1
        elif byte == _CLOSING_PARENTHESIS:
            around -= 1
            if around == 0:
                break
        found.append(byte)
    return ("text", tuple(found)), at


def _read_escape(data, at):
    """The bytes that a backslash before the place stands for, and the place behind."""
    byte = _hex_pair(data, at, len(data))
    if byte >= 0:
        return [byte], at + 2
    if at == len(data):
        return [], at
    return [_ESCAPES.get(data[at], data[at])], at + 1


def _hex_pair(data, at, end):
    """The byte of two hexadecimal digits at the place and before the end, or -1."""
    if at + 2 > end:
        return -1
    high = hex_digit(data[at])
    low = hex_digit(data[at + 1])
    return high * 16 + low if high >= 0 and low >= 0 else -1


def _read_hex_text(data, at):
    end = at
    while end < len(data) and data[end] != _GREATER:
        end += 1
    found, _ = from_hex(data[at:end], end - at)
    return ("text", tuple(found)), min(end + 1, len(data))


def _read_name(data, at):
    """The tuple of the bytes of the name behind a slash, and the place behind it."""
    end = word_end(data, at)
    found = []
    while at < end:
        byte = _hex_pair(data, at + 1, end) if data[at] == _TILDE else -1
        if byte >= 0:
            found.append(byte)
            at += 3
        else:
            found.append(data[at])
            at += 1
    return tuple(found), end


def _word_value(data, at, end):
    """The value of a word, or None if it is none."""
    if _is_word(data, at, end, _TRUE):
        return ("bool", 1)
    if _is_word(data, at, end, _FALSE):
        return ("bool", 0)
    if _is_word(data, at, end, _NONE):
        return _NO_VALUE
    negative = data[at] == _MINUS
    digits = data[at + 1:end] if negative else data[at:end]
    if not digits or not all([is_digit(byte) for byte in digits]):
        return None
    number = 0
    for byte in digits:
        # Brought to the bound at once, so that long words stay cheap.
        number = min(number * 10 + byte - 48, GREATEST_INTEGER)
    return ("int", -number if negative else number)


def _read_list(data, at, levels):
    """The list that begins behind its bracket, and the place behind it."""
    items = []
    value, at = _read_value(data, at, "list", levels)
    while value is not None:
        items.append(value)
        value, at = _read_value(data, at, "list", levels)
    if at < len(data) and data[at] == _CLOSING_BRACKET:
        at += 1
    return ("list", tuple(items)), at


def _read_dict(data, at, levels):
    """The dict or stream that begins behind its signs, and the place behind it."""
    pairs = {}
    at = skip_space(data, at)
    while not _is_over(data, at, "dict"):
        if data[at] == _SLASH:
            key, at = _read_name(data, at + 1)
            value, at = _read_value(data, at, "dict", levels)
            pairs[key] = _NO_VALUE if value is None else value
        elif _begins_dropped_value(data, at):
            _, at = _read_value(data, at, "dict", levels)
        else:
            at += 1
        at = skip_space(data, at)
    if at < len(data) and data[at] == _GREATER:
        return _dict_or_stream(tuple(pairs.items()), data, at + 2)
    return ("dict", tuple(pairs.items())), at


def _begins_dropped_value(data, at):
    if data[at] in (_OPENING_PARENTHESIS, _LESS, _OPENING_BRACKET) or is_regular(data[at]):
        return True
    return mark_at(data, at, AT_SIGN)[0] > 0


def _dict_or_stream(pairs, data, at):
    """The value that a dict with its end before the place is, and the place behind it."""
    begin, count = _read_braces(data, skip_white(data, at))
    if begin < 0:
        return ("dict", pairs), at
    # No digits are like the number 0: if {} stands at once, it is the first one, too.
    end = begin + count
    if not stands(data, end, _STREAM_END):
        end = begin
        while end < len(data) and not stands(data, end, _STREAM_END):
            end += 1
    return ("stream", pairs, tuple(data[begin:end])), min(end + 2, len(data))


def _read_braces(data, at):
    """The tuple (the place where the data of a stream begin, their number) of the braces
    at the place, or (-1, 0) if no stream begins there."""
    if at >= len(data) or data[at] != _OPENING_BRACE:
        return -1, 0
    count, end = read_digits(data, at + 1)
    if end >= len(data) or data[end] != _CLOSING_BRACE:
        return -1, 0
    return end + 1, count

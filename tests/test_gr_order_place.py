"""Promise 2, as far as it speaks of gr_order_place."""

import itertools
import math
import unittest

from singlechange.changerows import (
    gr_digit_place, gr_digits, gr_order, gr_order_place, gr_place, gr_set, gr_set_place, gr_word,
)
from tests.rows import (
    LARGEST_NUMBER, SMALLEST_NUMBER,
    UnchangeableList, is_list_of_whole_numbers, place_in_long_row_of_orders, row_of_orders, spread_places,
)

LARGEST_IN_ORDER = 255
WRONG_N = (0, 21, 22, 63, -1, -20, SMALLEST_NUMBER, SMALLEST_NUMBER + 1, LARGEST_NUMBER - 1, LARGEST_NUMBER)
LAST_PLACE_OF_TWENTY = 2432902008176639999


def with_number(order, position, number):
    return order[:position] + [number] + order[position + 1:]


def spread_orders(n):
    """Some orders: the numbers upwards, downwards and by strides, from each start on."""
    orders = []
    for start in range(n):
        upwards = [(start + step) % n for step in range(n)]
        orders.extend((upwards, upwards[::-1], upwards[::2] + upwards[1::2], upwards[1::2] + upwards[::2]))
    for stride in range(2, n):
        if math.gcd(stride, n) == 1:
            orders.append([stride * step % n for step in range(n)])
    return orders


class PlacesOfOrders(unittest.TestCase):
    def test_row_written_out(self):
        row = [[0, 1, 2], [0, 2, 1], [2, 0, 1], [2, 1, 0], [1, 2, 0], [1, 0, 2]]
        self.assertEqual([gr_order_place(3, order) for order in row], [[0, i] for i in range(6)])

    def test_every_order_of_short_rows(self):
        for n in range(1, 8):
            row = row_of_orders(n)
            self.assertEqual(sorted(row), [list(order) for order in itertools.permutations(range(n))])
            for i, order in enumerate(row):
                self.assertEqual(gr_order_place(n, order), [0, i], order)

    def test_every_list_of_few_small_numbers(self):
        for n in range(1, 6):
            row = row_of_orders(n)
            for numbers in itertools.product(range(n + 1), repeat=n):
                answer = [0, row.index(list(numbers))] if sorted(numbers) == list(range(n)) else [-3]
                self.assertEqual(gr_order_place(n, list(numbers)), answer, numbers)

    def test_spread_orders_of_every_row(self):
        for n in range(1, 21):
            for order in spread_orders(n):
                self.assertEqual(sorted(order), list(range(n)))
                self.assertEqual(gr_order_place(n, order), [0, place_in_long_row_of_orders(order)], order)


class OrdersBackAndForth(unittest.TestCase):
    def test_at_every_place_of_short_rows(self):
        for n in range(1, 8):
            for i in range(math.factorial(n)):
                self.assertEqual(gr_order_place(n, gr_order(n, i)[1:]), [0, i], (n, i))

    def test_at_spread_places_of_every_row(self):
        for n in range(1, 21):
            for i in spread_places(math.factorial(n)):
                self.assertEqual(gr_order_place(n, gr_order(n, i)[1:]), [0, i], (n, i))

    def test_from_spread_orders_of_every_row(self):
        for n in range(1, 21):
            for order in spread_orders(n):
                self.assertEqual(gr_order(n, gr_order_place(n, order)[1]), [0] + order, order)


class ListsThatAreNoOrder(unittest.TestCase):
    def test_one_number_too_large_in_short_rows(self):
        for n in range(1, 6):
            for order in row_of_orders(n):
                for position in range(n):
                    for number in (n, n + 1, n + 2, LARGEST_IN_ORDER - 1, LARGEST_IN_ORDER):
                        wrong = with_number(order, position, number)
                        self.assertEqual(gr_order_place(n, wrong), [-3], wrong)

    def test_one_number_twice_in_short_rows(self):
        for n in range(2, 6):
            for order in row_of_orders(n):
                for position, other in itertools.permutations(range(n), 2):
                    wrong = with_number(order, position, order[other])
                    self.assertEqual(gr_order_place(n, wrong), [-3], wrong)

    def test_one_number_too_large_in_every_row(self):
        for n in range(1, 21):
            for order in (list(range(n)), list(range(n))[::-1]):
                for position in range(n):
                    for number in (n, n + 1, LARGEST_IN_ORDER):
                        wrong = with_number(order, position, number)
                        self.assertEqual(gr_order_place(n, wrong), [-3], wrong)

    def test_one_number_twice_in_every_row(self):
        for n in range(2, 21):
            for order in (list(range(n)), list(range(n))[::-1]):
                for position, other in itertools.permutations(range(n), 2):
                    wrong = with_number(order, position, order[other])
                    self.assertEqual(gr_order_place(n, wrong), [-3], wrong)

    def test_other_numbers_of_the_same_sum(self):
        # A number moved up by what another is moved down leaves the sum as it is.
        self.assertEqual(gr_order_place(3, [1, 1, 1]), [-3])
        self.assertEqual(gr_order_place(3, [0, 0, 3]), [-3])
        self.assertEqual(gr_order_place(4, [0, 2, 2, 2]), [-3])
        self.assertEqual(gr_order_place(4, [0, 0, 3, 3]), [-3])

    def test_all_numbers_the_same(self):
        for n in range(2, 21):
            for number in (0, 1, n - 1, n, LARGEST_IN_ORDER):
                self.assertEqual(gr_order_place(n, [number] * n), [-3], (n, number))

    def test_the_numbers_from_1_on(self):
        for n in range(1, 21):
            self.assertEqual(gr_order_place(n, list(range(1, n + 1))), [-3], n)

    def test_every_single_number(self):
        self.assertEqual(gr_order_place(1, [0]), [0, 0])
        for number in range(1, LARGEST_IN_ORDER + 1):
            self.assertEqual(gr_order_place(1, [number]), [-3], number)


class OrderPlaceEdges(unittest.TestCase):
    def test_one_number(self):
        self.assertEqual(gr_order_place(1, [0]), [0, 0])
        self.assertEqual(gr_order_place(1, [1]), [-3])
        self.assertEqual(gr_order_place(1, [255]), [-3])

    def test_two_numbers(self):
        self.assertEqual(gr_order_place(2, [0, 1]), [0, 0])
        self.assertEqual(gr_order_place(2, [1, 0]), [0, 1])
        for wrong in ([0, 0], [1, 1], [0, 2], [2, 0], [1, 2], [2, 1], [255, 0], [0, 255]):
            self.assertEqual(gr_order_place(2, wrong), [-3], wrong)

    def test_twenty_numbers(self):
        self.assertEqual(gr_order_place(20, list(range(20))), [0, 0])
        self.assertEqual(gr_order_place(20, list(range(18)) + [19, 18]), [0, 1])
        self.assertEqual(gr_order_place(20, [19] + list(range(19))), [0, 19])
        self.assertEqual(gr_order_place(20, [19] + list(range(17)) + [18, 17]), [0, 20])
        self.assertEqual(gr_order_place(20, [1, 0] + list(range(2, 20))), [0, LAST_PLACE_OF_TWENTY])
        self.assertEqual(gr_order_place(20, [0] * 20), [-3])

    def test_the_numbers_downwards(self):
        for n, place in ((1, 0), (2, 1), (3, 3), (4, 12), (5, 64), (6, 389)):
            self.assertEqual(gr_order_place(n, list(range(n))[::-1]), [0, place], n)
        # Each number is put in at the front: for the first, the third order and so on that is done last, else first.
        place = 0
        for n in range(1, 21):
            place = place * n + (n - 1 if place % 2 == 0 else 0)
            self.assertEqual(gr_order_place(n, list(range(n))[::-1]), [0, place], n)

    def test_a_wrong_number_among_twenty(self):
        for order in (list(range(20)), list(range(20))[::-1], [1, 0] + list(range(2, 20))):
            for position in (0, 10, 19):
                for number in (20, 21, 255):
                    wrong = with_number(order, position, number)
                    self.assertEqual(gr_order_place(20, wrong), [-3], wrong)

    def test_both_ends_of_every_row(self):
        for n in range(1, 21):
            last = [1, 0] + list(range(2, n)) if n > 1 else [0]
            self.assertEqual(gr_order_place(n, list(range(n))), [0, 0], n)
            self.assertEqual(gr_order_place(n, last), [0, math.factorial(n) - 1], n)


class OrderPlaceRefusals(unittest.TestCase):
    def test_n_out_of_range(self):
        for n in WRONG_N:
            self.assertEqual(gr_order_place(n, []), [-2], n)


class OrderPlaceArguments(unittest.TestCase):
    def test_order_is_the_same_behind_the_call(self):
        for n, order in (
                (5, [3, 0, 4, 1, 2]), (20, list(range(20))[::-1]), (1, [0]), (5, [3, 0, 4, 0, 2]),
                (5, [3, 0, 5, 1, 2]), (20, [LARGEST_IN_ORDER] * 20), (1, [1]), (0, []), (21, [])):
            kept = list(order)
            gr_order_place(n, order)
            self.assertEqual(order, kept, n)

    def test_order_is_not_changed_for_a_while(self):
        self.assertEqual(gr_order_place(3, UnchangeableList([1, 2, 0])), [0, 4])
        self.assertEqual(gr_order_place(20, UnchangeableList(range(20))), [0, 0])
        self.assertEqual(gr_order_place(3, UnchangeableList([1, 2, 1])), [-3])
        self.assertEqual(gr_order_place(3, UnchangeableList([1, 2, 3])), [-3])
        self.assertEqual(gr_order_place(0, UnchangeableList()), [-2])
        self.assertEqual(gr_order_place(21, UnchangeableList()), [-2])


class OrderPlaceAnswers(unittest.TestCase):
    def test_whole_numbers_in_a_list(self):
        for n, order, length in (
                (1, [0], 2), (2, [1, 0], 2), (20, [1, 0] + list(range(2, 20)), 2), (20, [0] * 20, 1), (1, [1], 1),
                (0, [], 1)):
            answer = gr_order_place(n, order)
            self.assertTrue(is_list_of_whole_numbers(answer), (n, order))
            self.assertEqual(len(answer), length, (n, order))

    def test_same_call_twice(self):
        for n, order in ((5, [3, 0, 4, 1, 2]), (20, list(range(20))[::-1]), (5, [3, 0, 4, 0, 2]), (21, [])):
            first = gr_order_place(n, order)
            kept = list(first)
            first.append(99)
            first[0] = 98
            gr_order_place(4, [3, 1, 0, 2])
            gr_set_place(7, 85)
            gr_place(6, 33)
            gr_digit_place(3, 4, [1, 2, 0, 1])
            gr_word(5, 17)
            gr_digits(3, 4, 50)
            gr_set(6, 3, 11)
            gr_order(6, 500)
            self.assertEqual(gr_order_place(n, order), kept, (n, order))

    def test_arguments_by_name(self):
        self.assertEqual(gr_order_place(n=3, order=[1, 2, 0]), [0, 4])


if __name__ == "__main__":
    unittest.main()
